/-
  Proved here: the span of any prefix, whether any span has any key, is empty, or is another one, and what two have, as package bounds tells them, are told as the document says; nothing that came in is turned. The one condition is the card's own: the table of the widths lies as the program's text lays it (tied).
-/
import Derived.Test.YtofccfbiappgaaaDoorBndFar
import Derived.Test.YtofccfbiappgaaaDoorBndB
import Derived.Test.YtofccfbiappgaaaDoorBndAlive
import Derived.Test.YtofccfbiappgaaaDoorBndRMeet
import Derived.Test.YtofccfbiappgaaaDoorBndRow
import Derived.Test.YtofccfbiappgaaaDoorTie
import Derived.Test.YtofccfbiappgaaaDoorCards
import Derived.SevenTiedAt
import Derived.Deep.RegionHeld3
namespace Go.Proofs.YtofccfbiappgaaaDoor.boundsSpans
open Go.ChangeShapes Go.WideShapes Go.ChangeAt Go.RowKit

set_option maxRecDepth 100000 in
set_option maxHeartbeats 16000000 in
theorem walk (A : Option Addr) (n c : Nat) (f : List UInt8) (A' : Option Addr) (n' c' : Nat) (t : List UInt8) (o : Bool) (D : Option Addr) (m d : Nat) (f2 : List UInt8) (D' : Option Addr) (m' d' : Nat) (t2 : List UInt8) (o2 : Bool) (K : Option Addr) (kn kc : Nat) (k : List UInt8) (w : World) (hT : Tab w) (ha : Byt w w.heap.size A n f ∧ n ≤ c) (ha' : Byt w w.heap.size A' n' t ∧ n' ≤ c') (hb : Byt w w.heap.size D m f2 ∧ m ≤ d) (hb' : Byt w w.heap.size D' m' t2 ∧ m' ≤ d') (hk : Byt w w.heap.size K kn k) (hkc : kn ≤ kc) :
    Calls Tryd.prog 3 #[.agg #[.slice A n c, .slice A' n' c', .bool o], .agg #[.slice D m d, .slice D' m' d', .bool o2], .slice K kn kc] w fun e w' => e = .returned (.bool true) ∧ Below w.heap.size w w' := by
  have hm0 : n ≤ 9223372036854775807 ∧ n' ≤ 9223372036854775807 ∧ m ≤ 9223372036854775807 ∧ m' ≤ 9223372036854775807 ∧ kn ≤ 9223372036854775807 := by
    have := ha.1.2.1; have := ha'.1.2.1; have := hb.1.2.1; have := hb'.1.2.1; have := hk.2.1
    unfold maxLen at *
    omega
  obtain ⟨hm1, hm2, hm3, hm4, hm5⟩ := hm0
  generalize hW : (w.alloc (.cells #[.slice A n c, .slice A' n' c', .bool o] 24)).alloc (.cells #[.slice D m d, .slice D' m' d', .bool o2] 24) = W
  have HA := Lib.hid (show ∀ V, Below W.heap.size W V → (Three V w.heap.size (.slice A n c) (.slice A' n' c') (.bool o) ∧ Three V (w.heap.size + 1) (.slice D m d) (.slice D' m' d') (.bool o2)) ∧ (Byt V w.heap.size A n f ∧ Byt V w.heap.size A' n' t) ∧ (Byt V w.heap.size D m f2 ∧ Byt V w.heap.size D' m' t2) ∧ Byt V w.heap.size K kn k ∧ Tab V ∧ Below w.heap.size w V from fun V h => by
    have hw : Below w.heap.size w W := by subst hW; exact ((Below.refl _ _).alloc (Nat.le_refl _) _).alloc (by simp) _
    have hv : Below w.heap.size w V := hw.trans (h.mono hw.size)
    have q0 : Three W w.heap.size (.slice A n c) (.slice A' n' c') (.bool o) := by subst hW; exact (Three.new _ _ _ _ _).alloc _
    have q1 : Three W (w.heap.size + 1) (.slice D m d) (.slice D' m' d') (.bool o2) := by subst hW; have := Three.new (w.alloc (.cells #[.slice A n c, .slice A' n' c', .bool o] 24)) 24 (.slice D m d) (.slice D' m' d') (.bool o2); rwa [World.size_alloc] at this
    exact ⟨⟨q0.below h q0.lt, q1.below h q1.lt⟩, ⟨ha.1.below hv, ha'.1.below hv⟩, ⟨hb.1.below hv, hb'.1.below hv⟩, hk.below hv, hT.below hv, hv⟩)
  have hr : Below W.heap.size W W := Below.refl _ _
  have HR := Lib.hid hr
  have x0 := (HA.out _ hr).1.1.t0
  have x1 := (HA.out _ hr).1.1.t1
  have x2 := (HA.out _ hr).1.1.t2
  have y0 := (HA.out _ hr).1.2.t0
  have y1 := (HA.out _ hr).1.2.t1
  have y2 := (HA.out _ hr).1.2.t2
  clear ha ha' hb hb' hk hT hr
  generalize hX : W.alloc (.cells #[.slice A n c, .slice A' n' c', .bool o, .slice D m d, .slice D' m' d', .bool o2] 24) = X
  have BX := Lib.hid (show Below W.heap.size W X from by subst hX; exact (Below.refl _ _).alloc (Nat.le_refl _) _)
  have SX := Lib.hid (show Svs X X.heap.size (some ⟨W.heap.size, 0, none⟩) 2 [⟨A, n, c, A', n', c', o⟩, ⟨D, m, d, D', m', d', o2⟩] from by subst hX; exact svs_two (s := ⟨A, n, c, A', n', c', o⟩) (t := ⟨D, m, d, D', m', d', o2⟩) (Blk.new _ _ _))
  go_enter Tryd.func3, Tryd.ntmps3
  go_wp2_with fail
  clear hW hX
  (with_reducible refine (sfar_any (some ⟨W.heap.size, 0, none⟩) 2 2 X.heap.size _ X SX.out (Nat.le_refl _) (by decide) (by intro s hs; simp at hs; rcases hs with rfl | rfl <;> exact ⟨by assumption, by assumption⟩)).mono ?_)
  rintro e w1 ⟨bo, rfl, hsm, hq⟩
  have B1 := Lib.hid (BX.out.trans (hq.mono BX.out.size))
  clear hq SX x0 x1 x2 y0 y1 y2
  cases bo with
  | true =>
    clear hsm
    go_wp2_with fail
    (with_reducible refine (balive_any _ (HA.out _ B1.out).2.2.2.2.1).mono ?_)
    rintro e wz ⟨rfl, hz⟩
    have BZ := Lib.hid ((HA.out _ B1.out).2.2.2.2.2.trans (hz.mono (HA.out _ B1.out).2.2.2.2.2.size))
    clear hz
    go_wp2
    go_ret
    exact ⟨rfl, BZ.out⟩
  | false =>
    have hs1 := hsm rfl ⟨A, n, c, A', n', c', o⟩ (by simp)
    have hs2 := hsm rfl ⟨D, m, d, D', m', d', o2⟩ (by simp)
    simp only at hs1 hs2
    have HN := Lib.hid (show n ≤ 1099511627776 ∧ n' ≤ 1099511627776 ∧ m ≤ 1099511627776 ∧ m' ≤ 1099511627776 from by omega)
    clear hsm hs1 hs2
    by_cases hkn : 300 < kn
    · go_wp2_with fail
      (with_reducible refine (balive_any _ (HA.out _ B1.out).2.2.2.2.1).mono ?_)
      rintro e wz ⟨rfl, hz⟩
      have BZ := Lib.hid ((HA.out _ B1.out).2.2.2.2.2.trans (hz.mono (HA.out _ B1.out).2.2.2.2.2.size))
      clear hz
      go_wp2
      go_ret
      exact ⟨rfl, BZ.out⟩
    · obtain ⟨hx, hhx⟩ : ∃ b, hasS ⟨f, t, o⟩ k = b := ⟨_, rfl⟩
      obtain ⟨ex, hex⟩ : ∃ b, emptyS ⟨f, t, o⟩ = b := ⟨_, rfl⟩
      obtain ⟨sx, hsx⟩ : ∃ b, sameS ⟨f, t, o⟩ ⟨f2, t2, o2⟩ = b := ⟨_, rfl⟩
      have HX := Lib.hid (And.intro hhx (And.intro hex hsx))
      clear hhx hex hsx
      have e1 : (hx == hx) = true := by cases hx <;> rfl
      have e2 : (ex == ex) = true := by cases ex <;> rfl
      have e3 : (sx == sx) = true := by cases sx <;> rfl
      have KP := Lib.hid (show ∀ w', Below W.heap.size W w' → (w'.cell? ⟨w.heap.size, 0, none⟩ = some (.slice A n c) ∧ w'.cell? ⟨w.heap.size, 1, none⟩ = some (.slice A' n' c') ∧ w'.cell? ⟨w.heap.size, 2, none⟩ = some (.bool o)) ∧ w'.cell? ⟨w.heap.size + 1, 0, none⟩ = some (.slice D m d) ∧ w'.cell? ⟨w.heap.size + 1, 1, none⟩ = some (.slice D' m' d') ∧ w'.cell? ⟨w.heap.size + 1, 2, none⟩ = some (.bool o2) from fun Z h => ⟨⟨(HA.out _ h).1.1.t0, (HA.out _ h).1.1.t1, (HA.out _ h).1.1.t2⟩, (HA.out _ h).1.2.t0, (HA.out _ h).1.2.t1, (HA.out _ h).1.2.t2⟩)
      have B1x := B1.out
      have x0 := (HA.out _ B1x).1.1.t0
      have x1 := (HA.out _ B1x).1.1.t1
      have x2 := (HA.out _ B1x).1.1.t2
      have y0 := (HA.out _ B1x).1.2.t0
      have y1 := (HA.out _ B1x).1.2.t1
      have y2 := (HA.out _ B1x).1.2.t2
      go_wp2_with fail
      go_region_held3 (fun w' => (w'.cell? ⟨w.heap.size, 0, none⟩ = some (.slice A n c) ∧ w'.cell? ⟨w.heap.size, 1, none⟩ = some (.slice A' n' c') ∧ w'.cell? ⟨w.heap.size, 2, none⟩ = some (.bool o)) ∧ w'.cell? ⟨w.heap.size + 1, 0, none⟩ = some (.slice D m d) ∧ w'.cell? ⟨w.heap.size + 1, 1, none⟩ = some (.slice D' m' d') ∧ w'.cell? ⟨w.heap.size + 1, 2, none⟩ = some (.bool o2))
        (first
        | exact KP.out _ hb21
        | exact KP.out _ hb20
        | exact KP.out _ hb19
        | exact KP.out _ hb18
        | exact KP.out _ hb17
        | exact KP.out _ hb16
        | exact KP.out _ hb15
        | exact KP.out _ hb14
        | exact KP.out _ hb13
        | exact KP.out _ hb12
        | exact KP.out _ hb11
        | exact KP.out _ hb10
        | exact KP.out _ hb9
        | exact KP.out _ hb8
        | exact KP.out _ hb7
        | exact KP.out _ hb6
        | exact KP.out _ hb5
        | exact KP.out _ hb4
        | exact KP.out _ hb3
        | exact KP.out _ hb2
        | exact KP.out _ hb1
        | exact KP.out _ B1x
        | exact KP.out _ B1x.drew)
        (first
        | (go_at_call 9; (with_reducible refine (prefix_any K kn kc w.heap.size k w1.drew (HA.out _ (B1x.drew)).2.2.2.1 (HA.out _ (B1x.drew)).2.2.2.2.2.size (by omega)).mono ?_); rintro e v1 ⟨P1, p1, r1, P2, p2, r2, rfl, pa1, pa2, q1⟩; have hb1 : Below W.heap.size W v1 := (B1x.drew).trans (q1.mono (B1x.drew).size))
        | (go_at_call 10; (with_reducible refine (rprefix_any K kn kc w.heap.size k v1 (HA.out _ hb1).2.2.2.1 (HA.out _ hb1).2.2.2.2.2.size hkc (by omega)).mono ?_); rintro e v2 ⟨P3, p3, r3, P4, p4, r4, rfl, pb1, pb2, q2⟩; have hb2 : Below W.heap.size W v2 := hb1.trans (q2.mono hb1.size))
        | (go_at_call 8; (with_reducible refine (lsame_any P1 P2 P3 P4 p1 r1 p2 r2 p3 r3 p4 r4 v2.heap.size (prefS k) v2 ((pa1.below q2).more q2.size) ((pa2.below q2).more q2.size) pb1 pb2 (Nat.le_refl _)).mono ?_); rintro e v3 ⟨rfl, q3⟩; have hb3 : Below W.heap.size W v3 := hb2.trans (q3.mono hb2.size))
        | (go_at_call 12; (with_reducible refine (span_any A A' n c n' c' o v3).mono ?_); rintro e v4 ⟨rfl, q4⟩; have hb4 : Below W.heap.size W v4 := hb3.trans (q4.mono hb3.size))
        | (go_at_call 11; (with_reducible refine (bhas_b A A' K n c n' c' kn kc w.heap.size f t k o hx v4 (HA.out _ hb4).2.1.1 (HA.out _ hb4).2.1.2 (HA.out _ hb4).2.2.2.1 (HA.out _ hb4).2.2.2.2.2.size HX.out.1).mono ?_); rintro e v5 ⟨rfl, q5⟩; have hb5 : Below W.heap.size W v5 := hb4.trans (q5.mono hb4.size))
        | (go_at_call 13; (with_reducible refine (rhas_b A A' K n c n' c' kn kc w.heap.size f t k o hx v5 (HA.out _ hb5).2.1.1 (HA.out _ hb5).2.1.2 (HA.out _ hb5).2.2.2.1 (HA.out _ hb5).2.2.2.2.2.size HX.out.1).mono ?_); rintro e v6 ⟨rfl, q6⟩; have hb6 : Below W.heap.size W v6 := hb5.trans (q6.mono hb5.size))
        | (go_at_call 12; (with_reducible refine (span_any A A' n c n' c' o v6).mono ?_); rintro e v7 ⟨rfl, q7⟩; have hb7 : Below W.heap.size W v7 := hb6.trans (q7.mono hb6.size))
        | (go_at_call 14; (with_reducible refine (empty_b A A' n c n' c' w.heap.size f t o ex v7 (HA.out _ hb7).2.1.1 (HA.out _ hb7).2.1.2 (HA.out _ hb7).2.2.2.2.2.size HX.out.2.1).mono ?_); rintro e v8 ⟨rfl, q8⟩; have hb8 : Below W.heap.size W v8 := hb7.trans (q8.mono hb7.size))
        | (go_at_call 15; (with_reducible refine (rempty_b A A' n c n' c' w.heap.size f t o ex v8 (HA.out _ hb8).2.1.1 (HA.out _ hb8).2.1.2 (HA.out _ hb8).2.2.2.2.2.size HX.out.2.1).mono ?_); rintro e v9 ⟨rfl, q9⟩; have hb9 : Below W.heap.size W v9 := hb8.trans (q9.mono hb8.size))
        | (go_at_call 12; (with_reducible refine (span_any A A' n c n' c' o v9).mono ?_); rintro e v10 ⟨rfl, q10⟩; have hb10 : Below W.heap.size W v10 := hb9.trans (q10.mono hb9.size))
        | (go_at_call 12; (with_reducible refine (span_any D D' m d m' d' o2 v10).mono ?_); rintro e v11 ⟨rfl, q11⟩; have hb11 : Below W.heap.size W v11 := hb10.trans (q11.mono hb10.size))
        | (go_at_call 16; (with_reducible refine (bsame_b A A' D D' n c n' c' m d m' d' w.heap.size f t f2 t2 o o2 sx v11 (HA.out _ hb11).2.1.1 (HA.out _ hb11).2.1.2 (HA.out _ hb11).2.2.1.1 (HA.out _ hb11).2.2.1.2 (HA.out _ hb11).2.2.2.2.2.size HX.out.2.2).mono ?_); rintro e v12 ⟨rfl, q12⟩; have hb12 : Below W.heap.size W v12 := hb11.trans (q12.mono hb11.size))
        | (go_at_call 17; (with_reducible refine (rbsame_b A A' D D' n c n' c' m d m' d' w.heap.size f t f2 t2 o o2 sx v12 (HA.out _ hb12).2.1.1 (HA.out _ hb12).2.1.2 (HA.out _ hb12).2.2.1.1 (HA.out _ hb12).2.2.1.2 (HA.out _ hb12).2.2.2.2.2.size HX.out.2.2).mono ?_); rintro e v13 ⟨rfl, q13⟩; have hb13 : Below W.heap.size W v13 := hb12.trans (q13.mono hb12.size))
        | (go_at_call 12; (with_reducible refine (span_any A A' n c n' c' o v13).mono ?_); rintro e v14 ⟨rfl, q14⟩; have hb14 : Below W.heap.size W v14 := hb13.trans (q14.mono hb13.size))
        | (go_at_call 12; (with_reducible refine (span_any D D' m d m' d' o2 v14).mono ?_); rintro e v15 ⟨rfl, q15⟩; have hb15 : Below W.heap.size W v15 := hb14.trans (q15.mono hb14.size))
        | (go_at_call 18; (with_reducible refine (meet_any A A' D D' n c n' c' m d m' d' w.heap.size f t f2 t2 o o2 v15 (HA.out _ hb15).2.1.1 (HA.out _ hb15).2.1.2 (HA.out _ hb15).2.2.1.1 (HA.out _ hb15).2.2.1.2 (HA.out _ hb15).2.2.2.2.2.size HN.out).mono ?_); rintro e v16 ⟨M1, g1, i1, M2, g2, i2, rfl, ma1, ma2, q16⟩; have hb16 : Below W.heap.size W v16 := hb15.trans (q16.mono hb15.size))
        | (go_at_call 19; (with_reducible refine (rmeet_any A A' D D' n c n' c' m d m' d' w.heap.size f t f2 t2 o o2 v16 (HA.out _ hb16).2.1.1 (HA.out _ hb16).2.1.2 (HA.out _ hb16).2.2.1.1 (HA.out _ hb16).2.2.1.2 (HA.out _ hb16).2.2.2.2.2.size).mono ?_); rintro e v17 ⟨M3, g3, i3, M4, g4, i4, rfl, mb1, mb2, q17⟩; have hb17 : Below W.heap.size W v17 := hb16.trans (q17.mono hb16.size))
        | (go_at_call 8; (with_reducible refine (lsame_any M1 M2 M3 M4 g1 i1 g2 i2 g3 i3 g4 i4 v17.heap.size (meetS ⟨f, t, o⟩ ⟨f2, t2, o2⟩) v17 ((ma1.below q17).more q17.size) ((ma2.below q17).more q17.size) mb1 mb2 (Nat.le_refl _)).mono ?_); rintro e v18 ⟨rfl, q18⟩; have hb18 : Below W.heap.size W v18 := hb17.trans (q18.mono hb17.size))
        | (go_at_call 20; (with_reducible refine (whole_any v18).mono ?_); rintro e v19 ⟨E1, j1, l1, E2, j2, l2, rfl, ea1, ea2, q19⟩; have hb19 : Below W.heap.size W v19 := hb18.trans (q19.mono hb18.size))
        | (go_at_call 8; (with_reducible refine (lsame_any E1 E2 none none j1 l1 j2 l2 0 0 0 0 v19.heap.size ⟨[], [], true⟩ v19 ea1 ea2 Byt.none_ Byt.none_ (Nat.le_refl _)).mono ?_); rintro e v20 ⟨rfl, q20⟩; have hb20 : Below W.heap.size W v20 := hb19.trans (q20.mono hb19.size))
        | (go_at_call 7; (with_reducible refine (balive_any v20 (HA.out _ hb20).2.2.2.2.1).mono ?_); rintro e v21 ⟨rfl, q21⟩; have hb21 : Below W.heap.size W v21 := hb20.trans (q21.mono hb20.size)))
      have BZ := Lib.hid (HA.out _ hb21).2.2.2.2.2
      clear B1x hb1 q1 hb2 q2 hb3 q3 hb4 q4 hb5 q5 hb6 q6 hb7 q7 hb8 q8 hb9 q9 hb10 q10 hb11 q11 hb12 q12 hb13 q13 hb14 q14 hb15 q15 hb16 q16 hb17 q17 hb18 q18 hb19 q19 hb20 q20 hb21 q21
      go_wp2
      go_ret
      exact ⟨by simp, BZ.out⟩
set_option maxRecDepth 100000 in
theorem lifted (os : Os) (started : os.Started) (H : Type) (enc : TypeId × Value → H) :
    ReturnsInHanded {} Tryd.checked os 3 .any (fun w args => (Rows.boundsSpansSpec.pre enc Tryd.prog Tryd.f3 [] false w args ∧ laidMetH Tryd.prog [("spunyarn/ienc.widths", Rows.laid_spunyarn_ienc_widths)] w) ∧ sizedMet enc Tryd.prog Tryd.f3 (OpenSpec.ofChange Rows.boundsSpansSpec) false w args) (Rows.boundsSpansSpec.post enc Tryd.prog Tryd.f3 false true false false) := by
  refine returnsInHanded_of_change_and (C := Tryd.checked) (X := fun w _ => laidMetH Tryd.prog [("spunyarn/ienc.widths", Rows.laid_spunyarn_ienc_widths)] w) (fun _ _ _ hh h => h.of_heap hh) own started (by kernel_rfl) Tryd.func3
    (ChangeSpec.witness_shaped (enc := enc) (C := Tryd.checked) (os := os) (X := fun w _ => laidMetH Tryd.prog [("spunyarn/ienc.widths", Rows.laid_spunyarn_ienc_widths)] w) false (World.doorLaid Tryd.prog 400 os) #[.agg #[.slice none 0 0, .slice none 0 0, .bool false], .agg #[.slice none 0 0, .slice none 0 0, .bool false], .slice none 0 0] 8 rfl (World.shaped_of_RefB (by kernel_rfl) (by kernel_rfl)) (by kernel_rfl) (by kernel_rfl) (by kernel_rfl) (door_met os _)) ?_
  intro W base args ds gs before hval0 hW _ _ hL _
  have hval : ∀ (j : Nat) t v, Tryd.f3.params[j]? = some t → args[j]? = some v → Value.okWide Tryd.prog W .any base t v := hval0
  have hW' := hW
  obtain ⟨p, q, hA0, hV, rfl, hfz, hnd⟩ := hW
  have hA : DataW.TrodAll enc Tryd.prog W 0 (fun _ => true) true Tryd.f3.params.toList args.toList ds p := hA0
  rw [Tryd.params3] at hA hval
  obtain ⟨v0, vs0, d0, ds0, p0, q0, hargs, rfl, rfl, h0, r0⟩ := trodAll_cons hA
  obtain ⟨v1, vs1, d1, ds1, p1, q1, rfl, rfl, rfl, h1, r1⟩ := trodAll_cons r0
  obtain ⟨v2, vs2, d2, ds2, p2, q2, rfl, rfl, rfl, h2, r2⟩ := trodAll_cons r1
  obtain ⟨rfl, rfl, rfl⟩ := trodAll_nil r2
  obtain rfl : args = #[v0, v1, v2] := by cases args; simp_all
  obtain ⟨rfl, rfl⟩ := trodVars_none hV
  have k0 := h0
  have lt0 : ∀ x ∈ p0, x.block < W.heap.size := by obtain ⟨m, hm⟩ := k0; exact DataW.trod_lt m _ _ _ hm
  have k1 := h1
  have lt1 : ∀ x ∈ p1, x.block < W.heap.size := by obtain ⟨m, hm⟩ := k1; exact DataW.trod_lt m _ _ _ hm
  have k2 := h2
  have lt2 : ∀ x ∈ p2, x.block < W.heap.size := by obtain ⟨m, hm⟩ := k2; exact DataW.trod_lt m _ _ _ hm
  obtain ⟨A0, n0, c0, l0, Ax0, nx0, cx0, lx0, o0, rfl, b0, bx0⟩ := open_span (hval 0 24 v0 rfl rfl) h0
  obtain ⟨A1, n1, c1, l1, Ax1, nx1, cx1, lx1, o1, rfl, b1, bx1⟩ := open_span (hval 1 24 v1 rfl rfl) h1
  obtain ⟨A2, n2, c2, l2, rfl, b2, nc2⟩ := open_byt (hval 2 22 v2 rfl rfl) h2
  clear hA0 hval0
  refine (walk A0 n0 c0 l0 Ax0 nx0 cx0 lx0 o0 A1 n1 c1 l1 Ax1 nx1 cx1 lx1 o1 A2 n2 c2 l2 W (of_laid hL) b0 bx0 b1 bx1 b2 nc2).mono fun e W' ⟨he, bel⟩ => ?_
  subst he
  exact ⟨_, rfl, _, _, _, [], _, [], hW', trodAll_mk1 (shut_bool Tryd.underlying4 _), (trodAll_cons_mk (Below.trod laidOut (by kernel_rfl) (of_decide_eq_true (by kernel_rfl)) k0 bel lt0) (trodAll_cons_mk (Below.trod laidOut (by kernel_rfl) (of_decide_eq_true (by kernel_rfl)) k1 bel lt1) (trodAll_cons_mk (Below.trod laidOut (by kernel_rfl) (of_decide_eq_true (by kernel_rfl)) k2 bel lt2) trodAll_mk0))), rfl, bel.frame _, fun h => by cases h⟩

set_option maxRecDepth 100000 in
theorem proved : Rows.BoundsSpansSaid :=
  OpenClaim.holds_of_wide 3 Tryd.f3 rfl rfl rfl rfl rfl rfl rfl ⟨rfl, rfl, rfl, rfl, rfl⟩ rfl rfl rfl rfl rfl (by kernel_rfl) Tryd.func3 (by kernel_rfl)
    (of_decide_eq_true (by kernel_rfl)) (by unfold Func.isWrapper; first | (rw [if_pos (by decide +kernel)]; kernel_rfl) | (rw [if_neg (by decide +kernel)]; exact ⟨rfl, rfl⟩))
    (fun os started H enc _ => lifted os started H enc)
set_option maxRecDepth 100000 in
theorem card_holds : Rows.BoundsSpansCardSaid :=
  Claim7.holds_tied_plain_at .later [] [.data] true _ false
    proved (fun _ h => by cases h) (by kernel_rfl) (fun _ h => by cases h) boundsSpans_row_tie rfl ⟨rfl, rfl⟩ (by kernel_rfl) rfl
    (fun f fn hf hfn => by
      obtain rfl : f = 3 := Option.some.inj ((show Tryd.prog.funcNamed "spunyarn/spunyarnlaw07.BoundsSpans" = some 3 by kernel_rfl).symm.trans hf) |>.symm
      obtain rfl : fn = Tryd.f3 := (Option.some.inj (Tryd.func3.symm.trans hfn)).symm
      exact ⟨by kernel_rfl, fun j t ht => by
        rw [Tryd.params3] at ht
        have hm : t ∈ [24, 24, 22] := by simpa using Array.mem_of_getElem? ht
        have hall : ([24, 24, 22].all fun u => !Tryd.prog.wantsStandIn u) = true := by kernel_rfl
        exact (show Tryd.prog.wantsStandIn t = false by simpa using List.all_eq_true.1 hall t hm)⟩)
    (by kernel_rfl)
end Go.Proofs.YtofccfbiappgaaaDoor.boundsSpans
