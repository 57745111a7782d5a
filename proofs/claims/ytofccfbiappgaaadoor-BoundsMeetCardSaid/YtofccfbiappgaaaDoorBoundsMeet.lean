/-
  Proved here: what both spans have the meeting has, and nothing else; an empty one has no key, as package bounds tells it; nothing that came in is turned. The one condition is the card's own: the table of the widths lies as the program's text lays it (tied).
-/
import Derived.Test.YtofccfbiappgaaaDoorBndFar
import Derived.Test.YtofccfbiappgaaaDoorBndB
import Derived.Test.YtofccfbiappgaaaDoorBndAlive
import Derived.Test.YtofccfbiappgaaaDoorBndRMeet
import Derived.Test.YtofccfbiappgaaaDoorBndRow
import Derived.Test.YtofccfbiappgaaaDoorTie
import Derived.Test.YtofccfbiappgaaaDoorCards
import Derived.SevenTiedAt
import Derived.Deep.RegionHeld3
import Derived.Deep.DeepCutAuto
namespace Go.Proofs.YtofccfbiappgaaaDoor.boundsMeet
open Go.ChangeShapes Go.WideShapes Go.ChangeAt Go.RowKit

set_option maxRecDepth 100000 in
set_option maxHeartbeats 16000000 in
theorem walk (A : Option Addr) (n c : Nat) (f : List UInt8) (A' : Option Addr) (n' c' : Nat) (t : List UInt8) (o : Bool) (D : Option Addr) (m d : Nat) (f2 : List UInt8) (D' : Option Addr) (m' d' : Nat) (t2 : List UInt8) (o2 : Bool) (K : Option Addr) (kn kc : Nat) (k : List UInt8) (w : World) (hT : Tab w) (ha : Byt w w.heap.size A n f ∧ n ≤ c) (ha' : Byt w w.heap.size A' n' t ∧ n' ≤ c') (hb : Byt w w.heap.size D m f2 ∧ m ≤ d) (hb' : Byt w w.heap.size D' m' t2 ∧ m' ≤ d') (hk : Byt w w.heap.size K kn k) (_ : kn ≤ kc) :
    Calls Tryd.prog 4 #[.agg #[.slice A n c, .slice A' n' c', .bool o], .agg #[.slice D m d, .slice D' m' d', .bool o2], .slice K kn kc] w fun e w' => e = .returned (.bool true) ∧ Below w.heap.size w w' := by
  have hm0 : n ≤ 9223372036854775807 ∧ n' ≤ 9223372036854775807 ∧ m ≤ 9223372036854775807 ∧ m' ≤ 9223372036854775807 ∧ kn ≤ 9223372036854775807 := by
    have := ha.1.2.1; have := ha'.1.2.1; have := hb.1.2.1; have := hb'.1.2.1; have := hk.2.1
    unfold maxLen at *
    omega
  obtain ⟨hm1, hm2, hm3, hm4, hm5⟩ := hm0
  generalize hW : (w.alloc (.cells #[.slice A n c, .slice A' n' c', .bool o] 24)).alloc (.cells #[.slice D m d, .slice D' m' d', .bool o2] 24) = W
  have HA := Lib.hid (show ∀ V, Below W.heap.size W V → (Three V w.heap.size (.slice A n c) (.slice A' n' c') (.bool o) ∧ Three V (w.heap.size + 1) (.slice D m d) (.slice D' m' d') (.bool o2)) ∧ (Byt V w.heap.size A n f ∧ Byt V w.heap.size A' n' t) ∧ (Byt V w.heap.size D m f2 ∧ Byt V w.heap.size D' m' t2) ∧ Byt V w.heap.size K kn k ∧ Tab V ∧ Below w.heap.size w V from fun V h => by
    have hw : Below w.heap.size w W := by subst hW; exact ((Below.refl _ _).alloc (Nat.le_refl _) _).alloc (by simp) _
    have hv : Below w.heap.size w V := hw.trans (h.mono hw.size)
    have q0 : Three W w.heap.size (.slice A n c) (.slice A' n' c') (.bool o) := by subst hW; exact (Three.new _ _ _ _ _).alloc _
    have q1 : Three W (w.heap.size + 1) (.slice D m d) (.slice D' m' d') (.bool o2) := by subst hW; have := Three.new (w.alloc (.cells #[.slice A n c, .slice A' n' c', .bool o] 24)) 24 (.slice D m d) (.slice D' m' d') (.bool o2); rwa [World.size_alloc] at this
    exact ⟨⟨q0.below h q0.lt, q1.below h q1.lt⟩, ⟨ha.1.below hv, ha'.1.below hv⟩, ⟨hb.1.below hv, hb'.1.below hv⟩, hk.below hv, hT.below hv, hv⟩)
  have hr : Below W.heap.size W W := Below.refl _ _
  have HR := Lib.hid hr
  have x0 := (HA.out _ hr).1.1.t0
  have x1 := (HA.out _ hr).1.1.t1
  have x2 := (HA.out _ hr).1.1.t2
  have y0 := (HA.out _ hr).1.2.t0
  have y1 := (HA.out _ hr).1.2.t1
  have y2 := (HA.out _ hr).1.2.t2
  clear ha ha' hb hb' hk hT hr
  generalize hX : W.alloc (.cells #[.slice A n c, .slice A' n' c', .bool o, .slice D m d, .slice D' m' d', .bool o2] 24) = X
  have BX := Lib.hid (show Below W.heap.size W X from by subst hX; exact (Below.refl _ _).alloc (Nat.le_refl _) _)
  have SX := Lib.hid (show Svs X X.heap.size (some ⟨W.heap.size, 0, none⟩) 2 [⟨A, n, c, A', n', c', o⟩, ⟨D, m, d, D', m', d', o2⟩] from by subst hX; exact svs_two (s := ⟨A, n, c, A', n', c', o⟩) (t := ⟨D, m, d, D', m', d', o2⟩) (Blk.new _ _ _))
  go_enter Tryd.func4, Tryd.ntmps4
  go_wp2_with fail
  clear hW hX
  (with_reducible refine (sfar_any (some ⟨W.heap.size, 0, none⟩) 2 2 X.heap.size _ X SX.out (Nat.le_refl _) (by decide) (by intro s hs; simp at hs; rcases hs with rfl | rfl <;> exact ⟨by assumption, by assumption⟩)).mono ?_)
  rintro e w1 ⟨bo, rfl, hsm, hq⟩
  have B1 := Lib.hid (BX.out.trans (hq.mono BX.out.size))
  clear hq SX x0 x1 x2 y0 y1 y2
  cases bo with
  | true =>
    clear hsm
    go_wp2_with fail
    (with_reducible refine (balive_any _ (HA.out _ B1.out).2.2.2.2.1).mono ?_)
    rintro e wz ⟨rfl, hz⟩
    have BZ := Lib.hid ((HA.out _ B1.out).2.2.2.2.2.trans (hz.mono (HA.out _ B1.out).2.2.2.2.2.size))
    clear hz
    go_wp2
    go_ret
    exact ⟨rfl, BZ.out⟩
  | false =>
    have hs1 := hsm rfl ⟨A, n, c, A', n', c', o⟩ (by simp)
    have hs2 := hsm rfl ⟨D, m, d, D', m', d', o2⟩ (by simp)
    simp only at hs1 hs2
    have HN := Lib.hid (show n ≤ 1099511627776 ∧ n' ≤ 1099511627776 ∧ m ≤ 1099511627776 ∧ m' ≤ 1099511627776 from by omega)
    clear hsm hs1 hs2
    by_cases hkn : 300 < kn
    · go_wp2_with fail
      (with_reducible refine (balive_any _ (HA.out _ B1.out).2.2.2.2.1).mono ?_)
      rintro e wz ⟨rfl, hz⟩
      have BZ := Lib.hid ((HA.out _ B1.out).2.2.2.2.2.trans (hz.mono (HA.out _ B1.out).2.2.2.2.2.size))
      clear hz
      go_wp2
      go_ret
      exact ⟨rfl, BZ.out⟩
    · obtain ⟨ms, hms⟩ : ∃ b, meetS ⟨f, t, o⟩ ⟨f2, t2, o2⟩ = b := ⟨_, rfl⟩
      obtain ⟨p, hp⟩ : ∃ b, hasS ⟨f, t, o⟩ k = b := ⟨_, rfl⟩
      obtain ⟨r, hr⟩ : ∃ b, hasS ⟨f2, t2, o2⟩ k = b := ⟨_, rfl⟩
      have HMS := Lib.hid hms
      have HMS2 := Lib.hid ((meet_comm ⟨f2, t2, o2⟩ ⟨f, t, o⟩).trans hms)
      have HN2 := Lib.hid (show m ≤ 1099511627776 ∧ m' ≤ 1099511627776 ∧ n ≤ 1099511627776 ∧ n' ≤ 1099511627776 from by have := HN.out; omega)
      have HP := Lib.hid (And.intro hp hr)
      have HBO := Lib.hid (show hasS ms k = (p && r) from by rw [← hms, meet_has, hp, hr])
      have HEM := Lib.hid (show emptyS ms = true → (p && r) = false from fun q => by have := meet_empty ⟨f, t, o⟩ ⟨f2, t2, o2⟩ k; rw [hms, hp, hr, q] at this; simpa using this)
      clear hms hp hr
      have KP := Lib.hid (show ∀ w', Below W.heap.size W w' → (w'.cell? ⟨w.heap.size, 0, none⟩ = some (.slice A n c) ∧ w'.cell? ⟨w.heap.size, 1, none⟩ = some (.slice A' n' c') ∧ w'.cell? ⟨w.heap.size, 2, none⟩ = some (.bool o)) ∧ w'.cell? ⟨w.heap.size + 1, 0, none⟩ = some (.slice D m d) ∧ w'.cell? ⟨w.heap.size + 1, 1, none⟩ = some (.slice D' m' d') ∧ w'.cell? ⟨w.heap.size + 1, 2, none⟩ = some (.bool o2) from fun Z h => ⟨⟨(HA.out _ h).1.1.t0, (HA.out _ h).1.1.t1, (HA.out _ h).1.1.t2⟩, (HA.out _ h).1.2.t0, (HA.out _ h).1.2.t1, (HA.out _ h).1.2.t2⟩)
      have B1x := B1.out
      have x0 := (HA.out _ B1x).1.1.t0
      have x1 := (HA.out _ B1x).1.1.t1
      have x2 := (HA.out _ B1x).1.1.t2
      have y0 := (HA.out _ B1x).1.2.t0
      have y1 := (HA.out _ B1x).1.2.t1
      have y2 := (HA.out _ B1x).1.2.t2
      go_upto_region 3 with fail
      go_cut [7] (fun s7 wc => ∃ g M1 g1 i1 M2 g2 i2, s7 = .pointer (some ⟨g, 0, none⟩) ∧ Hid (Three wc g (.slice M1 g1 i1) (.slice M2 g2 i2) (.bool ms.o)) ∧ Hid (Byt wc wc.heap.size M1 g1 ms.f) ∧ Hid (Byt wc wc.heap.size M2 g2 ms.t) ∧ Hid (Below w1.heap.size w1 wc))
      case first =>
        go_region_held3 (fun w' => (w'.cell? ⟨w.heap.size, 0, none⟩ = some (.slice A n c) ∧ w'.cell? ⟨w.heap.size, 1, none⟩ = some (.slice A' n' c') ∧ w'.cell? ⟨w.heap.size, 2, none⟩ = some (.bool o)) ∧ w'.cell? ⟨w.heap.size + 1, 0, none⟩ = some (.slice D m d) ∧ w'.cell? ⟨w.heap.size + 1, 1, none⟩ = some (.slice D' m' d') ∧ w'.cell? ⟨w.heap.size + 1, 2, none⟩ = some (.bool o2))
          (first
          | exact KP.out _ (B1x.on (below_set3 hc3 hg _ _ _))
          | exact KP.out _ (B1x.on (hc3.alloc hc3.size _))
          | exact KP.out _ (B1x.on hc3)
          | exact KP.out _ (B1x.on (hc3.alloc hc3.size _))
          | exact KP.out _ (B1x.on hc2)
          | exact KP.out _ (B1x.on (hc2.alloc hc2.size _))
          | exact KP.out _ (B1x.on hc1)
          | exact KP.out _ (B1x.on (hc1.alloc hc1.size _))
          | exact KP.out _ (B1x.on ((Below.refl w1.heap.size w1).alloc (Below.refl w1.heap.size w1).size _).drew)
          | exact KP.out _ (B1x.on (Below.refl w1.heap.size w1).drew)
          | exact KP.out _ (B1x.on (Below.refl w1.heap.size w1))
          | exact KP.out _ (B1x.on ((Below.refl w1.heap.size w1).alloc (Below.refl w1.heap.size w1).size _)))
          (first
          | (go_at_call 12; (with_reducible refine (span_any A A' n c n' c' o (w1.alloc (.cells #[.slice none 0 0, .slice none 0 0, .bool false] 28)).drew).mono ?_); rintro e v1 ⟨rfl, q1⟩; have hc1 : Below w1.heap.size w1 v1 := (((Below.refl w1.heap.size w1).alloc (Below.refl w1.heap.size w1).size (.cells #[.slice none 0 0, .slice none 0 0, .bool false] 28)).drew).on q1; have hz1 : Three v1 w1.heap.size (.slice none 0 0) (.slice none 0 0) (.bool false) := ((Three.new w1 28 (.slice none 0 0) (.slice none 0 0) (.bool false)).drew_).below q1 ((Three.new w1 28 (.slice none 0 0) (.slice none 0 0) (.bool false)).drew_).lt; have hg := (Below.refl w1.heap.size w1).size)
          | (go_at_call 12; (with_reducible refine (span_any A A' n c n' c' o w1.drew).mono ?_); rintro e v1 ⟨rfl, q1⟩; have hc1 : Below w1.heap.size w1 v1 := ((Below.refl w1.heap.size w1).drew).on q1)
          | (go_at_call 12; (with_reducible refine (span_any D D' m d m' d' o2 (v1.alloc (.cells #[.slice none 0 0, .slice none 0 0, .bool false] 28))).mono ?_); rintro e v2 ⟨rfl, q2⟩; have hc2 : Below w1.heap.size w1 v2 := ((hc1.alloc hc1.size (.cells #[.slice none 0 0, .slice none 0 0, .bool false] 28))).on q2; have hz2 : Three v2 v1.heap.size (.slice none 0 0) (.slice none 0 0) (.bool false) := ((Three.new v1 28 (.slice none 0 0) (.slice none 0 0) (.bool false))).below q2 ((Three.new v1 28 (.slice none 0 0) (.slice none 0 0) (.bool false))).lt; have hg := hc1.size)
          | (go_at_call 12; (with_reducible refine (span_any D D' m d m' d' o2 v1).mono ?_); rintro e v2 ⟨rfl, q2⟩; have hc2 : Below w1.heap.size w1 v2 := hc1.on q2; have hz2 := hz1.below q2 hz1.lt)
          | (go_at_call 12; (with_reducible refine (span_any D D' m d m' d' o2 v1).mono ?_); rintro e v2 ⟨rfl, q2⟩; have hc2 : Below w1.heap.size w1 v2 := (hc1).on q2)
          | (go_at_call 18; (with_reducible refine (bmeet_c A A' D D' n c n' c' m d m' d' w.heap.size f t f2 t2 o o2 ms (v2.alloc (.cells #[.slice none 0 0, .slice none 0 0, .bool false] 28)) (HA.out _ (B1x.on ((hc2.alloc hc2.size (.cells #[.slice none 0 0, .slice none 0 0, .bool false] 28))))).2.1.1 (HA.out _ (B1x.on ((hc2.alloc hc2.size (.cells #[.slice none 0 0, .slice none 0 0, .bool false] 28))))).2.1.2 (HA.out _ (B1x.on ((hc2.alloc hc2.size (.cells #[.slice none 0 0, .slice none 0 0, .bool false] 28))))).2.2.1.1 (HA.out _ (B1x.on ((hc2.alloc hc2.size (.cells #[.slice none 0 0, .slice none 0 0, .bool false] 28))))).2.2.1.2 (HA.out _ (B1x.on ((hc2.alloc hc2.size (.cells #[.slice none 0 0, .slice none 0 0, .bool false] 28))))).2.2.2.2.2.size HN.out HMS.out).mono ?_); rintro e v3 ⟨M1, g1, i1, M2, g2, i2, rfl, ma1, ma2, q3⟩; have hc3 : Below w1.heap.size w1 v3 := ((hc2.alloc hc2.size (.cells #[.slice none 0 0, .slice none 0 0, .bool false] 28))).on q3; have hz3 : Three v3 v2.heap.size (.slice none 0 0) (.slice none 0 0) (.bool false) := ((Three.new v2 28 (.slice none 0 0) (.slice none 0 0) (.bool false))).below q3 ((Three.new v2 28 (.slice none 0 0) (.slice none 0 0) (.bool false))).lt; have hg := hc2.size; have r0 := hz3.t0; have r1 := hz3.t1; have r2 := hz3.t2; have s0 := hz3.fz 0; have s1 := hz3.fz 1; have s2 := hz3.fz 2)
          | (go_at_call 18; (with_reducible refine (bmeet_c A A' D D' n c n' c' m d m' d' w.heap.size f t f2 t2 o o2 ms v2 (HA.out _ (B1x.on hc2)).2.1.1 (HA.out _ (B1x.on hc2)).2.1.2 (HA.out _ (B1x.on hc2)).2.2.1.1 (HA.out _ (B1x.on hc2)).2.2.1.2 (HA.out _ (B1x.on hc2)).2.2.2.2.2.size HN.out HMS.out).mono ?_); rintro e v3 ⟨M1, g1, i1, M2, g2, i2, rfl, ma1, ma2, q3⟩; have hc3 : Below w1.heap.size w1 v3 := hc2.on q3; have hz3 := hz2.below q3 hz2.lt; have r0 := hz3.t0; have r1 := hz3.t1; have r2 := hz3.t2; have s0 := hz3.fz 0; have s1 := hz3.fz 1; have s2 := hz3.fz 2)
          | (go_at_call 18; (with_reducible refine (bmeet_c A A' D D' n c n' c' m d m' d' w.heap.size f t f2 t2 o o2 ms v2 (HA.out _ (B1x.on (hc2))).2.1.1 (HA.out _ (B1x.on (hc2))).2.1.2 (HA.out _ (B1x.on (hc2))).2.2.1.1 (HA.out _ (B1x.on (hc2))).2.2.1.2 (HA.out _ (B1x.on (hc2))).2.2.2.2.2.size HN.out HMS.out).mono ?_); rintro e v3 ⟨M1, g1, i1, M2, g2, i2, rfl, ma1, ma2, q3⟩; have hc3 : Below w1.heap.size w1 v3 := (hc2).on q3))
        all_goals
          go_wp2_with fail
          go_meet
          first
          | exact ⟨_, M1, g1, i1, M2, g2, i2, rfl, Lib.hid (hz3.set3 _ _ _), Lib.hid (by rw [size_set3]; exact hz3.keep3 ma1 _ _ _), Lib.hid (by rw [size_set3]; exact hz3.keep3 ma2 _ _ _), Lib.hid (below_set3 hc3 hg _ _ _)⟩
          | exact ⟨_, M1, g1, i1, M2, g2, i2, rfl, Lib.hid (Three.new _ _ _ _ _), Lib.hid ((ma1.alloc (Nat.le_refl _) _).more (by simp)), Lib.hid ((ma2.alloc (Nat.le_refl _) _).more (by simp)), Lib.hid (hc3.alloc hc3.size _)⟩
      case rest =>
      obtain ⟨g7, M1, j1, i1, M2, j2, i2, rfl, T7, Y7, Z7, B7⟩ := hcut
      have B2x := B1x.on B7.out
      clear x0 x1 x2 y0 y1 y2 B1x
      generalize hw2 : wc = w2 at *
      clear hw2
      have x0 := (HA.out _ B2x).1.1.t0
      have x1 := (HA.out _ B2x).1.1.t1
      have x2 := (HA.out _ B2x).1.1.t2
      have y0 := (HA.out _ B2x).1.2.t0
      have y1 := (HA.out _ B2x).1.2.t1
      have y2 := (HA.out _ B2x).1.2.t2
      go_upto_region 4 with fail
      go_cut [8] (fun s8 wc => ∃ g N1 g1 i1 N2 g2 i2, s8 = .pointer (some ⟨g, 0, none⟩) ∧ Hid (Three wc g (.slice N1 g1 i1) (.slice N2 g2 i2) (.bool ms.o)) ∧ Hid (Byt wc wc.heap.size N1 g1 ms.f) ∧ Hid (Byt wc wc.heap.size N2 g2 ms.t) ∧ Hid (Below w2.heap.size w2 wc))
      case first =>
        go_region_held3 (fun w' => (w'.cell? ⟨w.heap.size, 0, none⟩ = some (.slice A n c) ∧ w'.cell? ⟨w.heap.size, 1, none⟩ = some (.slice A' n' c') ∧ w'.cell? ⟨w.heap.size, 2, none⟩ = some (.bool o)) ∧ w'.cell? ⟨w.heap.size + 1, 0, none⟩ = some (.slice D m d) ∧ w'.cell? ⟨w.heap.size + 1, 1, none⟩ = some (.slice D' m' d') ∧ w'.cell? ⟨w.heap.size + 1, 2, none⟩ = some (.bool o2))
          (first
          | exact KP.out _ (B2x.on (below_set3 hc3 hg _ _ _))
          | exact KP.out _ (B2x.on (hc3.alloc hc3.size _))
          | exact KP.out _ (B2x.on hc3)
          | exact KP.out _ (B2x.on (hc3.alloc hc3.size _))
          | exact KP.out _ (B2x.on hc2)
          | exact KP.out _ (B2x.on (hc2.alloc hc2.size _))
          | exact KP.out _ (B2x.on hc1)
          | exact KP.out _ (B2x.on (hc1.alloc hc1.size _))
          | exact KP.out _ (B2x.on ((Below.refl w2.heap.size w2).alloc (Below.refl w2.heap.size w2).size _).drew)
          | exact KP.out _ (B2x.on (Below.refl w2.heap.size w2).drew)
          | exact KP.out _ (B2x.on (Below.refl w2.heap.size w2))
          | exact KP.out _ (B2x.on ((Below.refl w2.heap.size w2).alloc (Below.refl w2.heap.size w2).size _)))
          (first
          | (go_at_call 12; (with_reducible refine (span_any D D' m d m' d' o2 (w2.alloc (.cells #[.slice none 0 0, .slice none 0 0, .bool false] 28)).drew).mono ?_); rintro e v1 ⟨rfl, q1⟩; have hc1 : Below w2.heap.size w2 v1 := (((Below.refl w2.heap.size w2).alloc (Below.refl w2.heap.size w2).size (.cells #[.slice none 0 0, .slice none 0 0, .bool false] 28)).drew).on q1; have hz1 : Three v1 w2.heap.size (.slice none 0 0) (.slice none 0 0) (.bool false) := ((Three.new w2 28 (.slice none 0 0) (.slice none 0 0) (.bool false)).drew_).below q1 ((Three.new w2 28 (.slice none 0 0) (.slice none 0 0) (.bool false)).drew_).lt; have hg := (Below.refl w2.heap.size w2).size)
          | (go_at_call 12; (with_reducible refine (span_any D D' m d m' d' o2 w2.drew).mono ?_); rintro e v1 ⟨rfl, q1⟩; have hc1 : Below w2.heap.size w2 v1 := ((Below.refl w2.heap.size w2).drew).on q1)
          | (go_at_call 12; (with_reducible refine (span_any A A' n c n' c' o (v1.alloc (.cells #[.slice none 0 0, .slice none 0 0, .bool false] 28))).mono ?_); rintro e v2 ⟨rfl, q2⟩; have hc2 : Below w2.heap.size w2 v2 := ((hc1.alloc hc1.size (.cells #[.slice none 0 0, .slice none 0 0, .bool false] 28))).on q2; have hz2 : Three v2 v1.heap.size (.slice none 0 0) (.slice none 0 0) (.bool false) := ((Three.new v1 28 (.slice none 0 0) (.slice none 0 0) (.bool false))).below q2 ((Three.new v1 28 (.slice none 0 0) (.slice none 0 0) (.bool false))).lt; have hg := hc1.size)
          | (go_at_call 12; (with_reducible refine (span_any A A' n c n' c' o v1).mono ?_); rintro e v2 ⟨rfl, q2⟩; have hc2 : Below w2.heap.size w2 v2 := hc1.on q2; have hz2 := hz1.below q2 hz1.lt)
          | (go_at_call 12; (with_reducible refine (span_any A A' n c n' c' o v1).mono ?_); rintro e v2 ⟨rfl, q2⟩; have hc2 : Below w2.heap.size w2 v2 := (hc1).on q2)
          | (go_at_call 18; (with_reducible refine (bmeet_c D D' A A' m d m' d' n c n' c' w.heap.size f2 t2 f t o2 o ms (v2.alloc (.cells #[.slice none 0 0, .slice none 0 0, .bool false] 28)) (HA.out _ (B2x.on ((hc2.alloc hc2.size (.cells #[.slice none 0 0, .slice none 0 0, .bool false] 28))))).2.2.1.1 (HA.out _ (B2x.on ((hc2.alloc hc2.size (.cells #[.slice none 0 0, .slice none 0 0, .bool false] 28))))).2.2.1.2 (HA.out _ (B2x.on ((hc2.alloc hc2.size (.cells #[.slice none 0 0, .slice none 0 0, .bool false] 28))))).2.1.1 (HA.out _ (B2x.on ((hc2.alloc hc2.size (.cells #[.slice none 0 0, .slice none 0 0, .bool false] 28))))).2.1.2 (HA.out _ (B2x.on ((hc2.alloc hc2.size (.cells #[.slice none 0 0, .slice none 0 0, .bool false] 28))))).2.2.2.2.2.size HN2.out HMS2.out).mono ?_); rintro e v3 ⟨N1, g1, i1, N2, g2, i2, rfl, ma1, ma2, q3⟩; have hc3 : Below w2.heap.size w2 v3 := ((hc2.alloc hc2.size (.cells #[.slice none 0 0, .slice none 0 0, .bool false] 28))).on q3; have hz3 : Three v3 v2.heap.size (.slice none 0 0) (.slice none 0 0) (.bool false) := ((Three.new v2 28 (.slice none 0 0) (.slice none 0 0) (.bool false))).below q3 ((Three.new v2 28 (.slice none 0 0) (.slice none 0 0) (.bool false))).lt; have hg := hc2.size; have r0 := hz3.t0; have r1 := hz3.t1; have r2 := hz3.t2; have s0 := hz3.fz 0; have s1 := hz3.fz 1; have s2 := hz3.fz 2)
          | (go_at_call 18; (with_reducible refine (bmeet_c D D' A A' m d m' d' n c n' c' w.heap.size f2 t2 f t o2 o ms v2 (HA.out _ (B2x.on hc2)).2.2.1.1 (HA.out _ (B2x.on hc2)).2.2.1.2 (HA.out _ (B2x.on hc2)).2.1.1 (HA.out _ (B2x.on hc2)).2.1.2 (HA.out _ (B2x.on hc2)).2.2.2.2.2.size HN2.out HMS2.out).mono ?_); rintro e v3 ⟨N1, g1, i1, N2, g2, i2, rfl, ma1, ma2, q3⟩; have hc3 : Below w2.heap.size w2 v3 := hc2.on q3; have hz3 := hz2.below q3 hz2.lt; have r0 := hz3.t0; have r1 := hz3.t1; have r2 := hz3.t2; have s0 := hz3.fz 0; have s1 := hz3.fz 1; have s2 := hz3.fz 2)
          | (go_at_call 18; (with_reducible refine (bmeet_c D D' A A' m d m' d' n c n' c' w.heap.size f2 t2 f t o2 o ms v2 (HA.out _ (B2x.on (hc2))).2.2.1.1 (HA.out _ (B2x.on (hc2))).2.2.1.2 (HA.out _ (B2x.on (hc2))).2.1.1 (HA.out _ (B2x.on (hc2))).2.1.2 (HA.out _ (B2x.on (hc2))).2.2.2.2.2.size HN2.out HMS2.out).mono ?_); rintro e v3 ⟨N1, g1, i1, N2, g2, i2, rfl, ma1, ma2, q3⟩; have hc3 : Below w2.heap.size w2 v3 := (hc2).on q3))
        all_goals
          go_wp2_with fail
          go_meet
          first
          | exact ⟨_, N1, g1, i1, N2, g2, i2, rfl, Lib.hid (hz3.set3 _ _ _), Lib.hid (by rw [size_set3]; exact hz3.keep3 ma1 _ _ _), Lib.hid (by rw [size_set3]; exact hz3.keep3 ma2 _ _ _), Lib.hid (below_set3 hc3 hg _ _ _)⟩
          | exact ⟨_, N1, g1, i1, N2, g2, i2, rfl, Lib.hid (Three.new _ _ _ _ _), Lib.hid ((ma1.alloc (Nat.le_refl _) _).more (by simp)), Lib.hid ((ma2.alloc (Nat.le_refl _) _).more (by simp)), Lib.hid (hc3.alloc hc3.size _)⟩
      case rest =>
      obtain ⟨g8, N1, j3, i3, N2, j4, i4, rfl, T8, Y8, Z8, B8⟩ := hcut
      have HM := Lib.hid (show ∀ V, Below wc.heap.size wc V → (Three V g7 (.slice M1 j1 i1) (.slice M2 j2 i2) (.bool ms.o) ∧ Three V g8 (.slice N1 j3 i3) (.slice N2 j4 i4) (.bool ms.o)) ∧ (Byt V V.heap.size M1 j1 ms.f ∧ Byt V V.heap.size M2 j2 ms.t) ∧ (Byt V V.heap.size N1 j3 ms.f ∧ Byt V V.heap.size N2 j4 ms.t) ∧ Below W.heap.size W V from fun V h => by
        have q7 := T7.out.below B8.out T7.out.lt
        exact ⟨⟨q7.below h (Nat.lt_of_lt_of_le T7.out.lt B8.out.size), T8.out.below h T8.out.lt⟩, ⟨(((Y7.out.below B8.out).more B8.out.size).below h).more h.size, (((Z7.out.below B8.out).more B8.out.size).below h).more h.size⟩, ⟨(Y8.out.below h).more h.size, (Z8.out.below h).more h.size⟩, (B2x.on B8.out).on h⟩)
      clear T7 Y7 Z7 T8 Y8 Z8 B8 x0 x1 x2 y0 y1 y2 B2x B7
      generalize hw3 : wc = w3 at *
      clear hw3
      have B3 := Lib.hid (HM.out _ (Below.refl _ _)).2.2.2
      have B3x := B3.out
      have x0 := (HA.out _ B3x).1.1.t0
      have x1 := (HA.out _ B3x).1.1.t1
      have x2 := (HA.out _ B3x).1.1.t2
      have y0 := (HA.out _ B3x).1.2.t0
      have y1 := (HA.out _ B3x).1.2.t1
      have y2 := (HA.out _ B3x).1.2.t2
      go_upto_region 5 with fail
      go_cut [9] (fun s9 wc => s9 = .bool (p && r) ∧ Hid (Below w3.heap.size w3 wc))
      case first =>
        go_wp2_with fail
        (with_reducible refine (span_any A A' n c n' c' o w3).mono ?_)
        rintro e v1 ⟨rfl, q1⟩
        have C1 := Lib.hid q1
        clear q1 x0 x1 x2
        go_wp2_with fail
        (with_reducible refine (bhas_b A A' K n c n' c' kn kc w.heap.size f t k o p v1 (HA.out _ (B3.out.on C1.out)).2.1.1 (HA.out _ (B3.out.on C1.out)).2.1.2 (HA.out _ (B3.out.on C1.out)).2.2.2.1 (HA.out _ (B3.out.on C1.out)).2.2.2.2.2.size HP.out.1).mono ?_)
        rintro e v2 ⟨rfl, q2⟩
        have C2 := Lib.hid (C1.out.on q2)
        clear q2 y0 y1 y2
        cases p with
        | false =>
          go_wp2_with fail
          go_meet
          exact ⟨rfl, C2⟩
        | true =>
          have y0 := (HA.out _ (B3.out.on C2.out)).1.2.t0
          have y1 := (HA.out _ (B3.out.on C2.out)).1.2.t1
          have y2 := (HA.out _ (B3.out.on C2.out)).1.2.t2
          go_wp2_with fail
          (with_reducible refine (span_any D D' m d m' d' o2 v2).mono ?_)
          rintro e v3 ⟨rfl, q3⟩
          have C3 := Lib.hid (C2.out.on q3)
          clear q3 y0 y1 y2
          go_wp2_with fail
          (with_reducible refine (bhas_b D D' K m d m' d' kn kc w.heap.size f2 t2 k o2 r v3 (HA.out _ (B3.out.on C3.out)).2.2.1.1 (HA.out _ (B3.out.on C3.out)).2.2.1.2 (HA.out _ (B3.out.on C3.out)).2.2.2.1 (HA.out _ (B3.out.on C3.out)).2.2.2.2.2.size HP.out.2).mono ?_)
          rintro e v4 ⟨rfl, q4⟩
          have C4 := Lib.hid (C3.out.on q4)
          clear q4
          go_wp2_with fail
          go_meet
          exact ⟨by simp, C4⟩
      case rest =>
      obtain ⟨rfl, C⟩ := hcut
      generalize hbb : (p && r) = bb at HBO HEM
      have ebb : (bb == bb) = true := by cases bb <;> rfl
      clear hbb x0 x1 x2 y0 y1 y2 B3x
      have m0 := (HM.out _ C.out).1.1.t0
      have m1 := (HM.out _ C.out).1.1.t1
      have m2 := (HM.out _ C.out).1.1.t2
      go_wp2_with fail
      (with_reducible refine (bhas_b M1 M2 K j1 i1 j2 i2 kn kc wc.heap.size ms.f ms.t k ms.o bb wc (HM.out _ C.out).2.1.1 (HM.out _ C.out).2.1.2 ((HA.out _ (HM.out _ C.out).2.2.2).2.2.2.1.more (HA.out _ (HM.out _ C.out).2.2.2).2.2.2.2.2.size) (Nat.le_refl _) HBO.out).mono ?_)
      rintro e v1 ⟨rfl, q1⟩
      have C1 := Lib.hid (C.out.on q1)
      clear q1 m0 m1 m2
      have m0 := (HM.out _ C1.out).1.1.t0
      have m1 := (HM.out _ C1.out).1.1.t1
      have m2 := (HM.out _ C1.out).1.1.t2
      have n0 := (HM.out _ C1.out).1.2.t0
      have n1 := (HM.out _ C1.out).1.2.t1
      have n2 := (HM.out _ C1.out).1.2.t2
      go_wp2_with fail
      (with_reducible refine (bsame_b M1 M2 N1 N2 j1 i1 j2 i2 j3 i3 j4 i4 v1.heap.size ms.f ms.t ms.f ms.t ms.o ms.o true v1 (HM.out _ C1.out).2.1.1 (HM.out _ C1.out).2.1.2 (HM.out _ C1.out).2.2.1.1 (HM.out _ C1.out).2.2.1.2 (Nat.le_refl _) (sameS_self ms)).mono ?_)
      rintro e v2 ⟨rfl, q2⟩
      have C2 := Lib.hid (C1.out.on q2)
      clear q2 m0 m1 m2 n0 n1 n2
      have m0 := (HM.out _ C2.out).1.1.t0
      have m1 := (HM.out _ C2.out).1.1.t1
      have m2 := (HM.out _ C2.out).1.1.t2
      obtain ⟨em, hem⟩ : ∃ b, emptyS ms = b := ⟨_, rfl⟩
      have HE := Lib.hid hem
      clear hem
      go_wp2_with fail
      (with_reducible refine (empty_b M1 M2 j1 i1 j2 i2 v2.heap.size ms.f ms.t ms.o em v2 (HM.out _ C2.out).2.1.1 (HM.out _ C2.out).2.1.2 (Nat.le_refl _) HE.out).mono ?_)
      rintro e v3 ⟨rfl, q3⟩
      have C3 := Lib.hid (C2.out.on q3)
      clear q3 m0 m1 m2
      cases em with
      | true =>
        obtain rfl : bb = false := HEM.out HE.out
        go_wp2_with fail
        (with_reducible refine (whole_any v3).mono ?_)
        rintro e v4 ⟨E1, j5, l1, E2, j6, l2, rfl, ea1, ea2, q4⟩
        have C4 := Lib.hid (C3.out.on q4)
        have EA := Lib.hid (And.intro ea1 ea2)
        clear q4 ea1 ea2
        go_wp2_with fail
        (with_reducible refine (bhas_b E1 E2 K j5 l1 j6 l2 kn kc v4.heap.size [] [] k true true v4 EA.out.1 EA.out.2 ((HA.out _ (HM.out _ C4.out).2.2.2).2.2.2.1.more (HA.out _ (HM.out _ C4.out).2.2.2).2.2.2.2.2.size) (Nat.le_refl _) (whole_has k)).mono ?_)
        rintro e v5 ⟨rfl, q5⟩
        have C5 := Lib.hid (C4.out.on q5)
        clear q5
        go_wp2_with fail
        (with_reducible refine (balive_any v5 (HA.out _ (HM.out _ C5.out).2.2.2).2.2.2.2.1).mono ?_)
        rintro e v6 ⟨rfl, q6⟩
        have BZ := Lib.hid (HA.out _ (HM.out _ (C5.out.on q6)).2.2.2).2.2.2.2.2
        clear q6
        go_wp2
        go_ret
        exact ⟨rfl, BZ.out⟩
      | false =>
        go_wp2_with fail
        (with_reducible refine (whole_any v3).mono ?_)
        rintro e v4 ⟨E1, j5, l1, E2, j6, l2, rfl, ea1, ea2, q4⟩
        have C4 := Lib.hid (C3.out.on q4)
        have EA := Lib.hid (And.intro ea1 ea2)
        clear q4 ea1 ea2
        go_wp2_with fail
        (with_reducible refine (bhas_b E1 E2 K j5 l1 j6 l2 kn kc v4.heap.size [] [] k true true v4 EA.out.1 EA.out.2 ((HA.out _ (HM.out _ C4.out).2.2.2).2.2.2.1.more (HA.out _ (HM.out _ C4.out).2.2.2).2.2.2.2.2.size) (Nat.le_refl _) (whole_has k)).mono ?_)
        rintro e v5 ⟨rfl, q5⟩
        have C5 := Lib.hid (C4.out.on q5)
        clear q5
        go_wp2_with fail
        (with_reducible refine (balive_any v5 (HA.out _ (HM.out _ C5.out).2.2.2).2.2.2.2.1).mono ?_)
        rintro e v6 ⟨rfl, q6⟩
        have BZ := Lib.hid (HA.out _ (HM.out _ (C5.out.on q6)).2.2.2).2.2.2.2.2
        clear q6
        go_wp2
        go_ret
        exact ⟨rfl, BZ.out⟩
set_option maxRecDepth 100000 in
theorem lifted (os : Os) (started : os.Started) (H : Type) (enc : TypeId × Value → H) :
    ReturnsInHanded {} Tryd.checked os 4 .any (fun w args => (Rows.boundsMeetSpec.pre enc Tryd.prog Tryd.f4 [] false w args ∧ laidMetH Tryd.prog [("spunyarn/ienc.widths", Rows.laid_spunyarn_ienc_widths)] w) ∧ sizedMet enc Tryd.prog Tryd.f4 (OpenSpec.ofChange Rows.boundsMeetSpec) false w args) (Rows.boundsMeetSpec.post enc Tryd.prog Tryd.f4 false true false false) := by
  refine returnsInHanded_of_change_and (C := Tryd.checked) (X := fun w _ => laidMetH Tryd.prog [("spunyarn/ienc.widths", Rows.laid_spunyarn_ienc_widths)] w) (fun _ _ _ hh h => h.of_heap hh) own started (by kernel_rfl) Tryd.func4
    (ChangeSpec.witness_shaped (enc := enc) (C := Tryd.checked) (os := os) (X := fun w _ => laidMetH Tryd.prog [("spunyarn/ienc.widths", Rows.laid_spunyarn_ienc_widths)] w) false (World.doorLaid Tryd.prog 400 os) #[.agg #[.slice none 0 0, .slice none 0 0, .bool false], .agg #[.slice none 0 0, .slice none 0 0, .bool false], .slice none 0 0] 8 rfl (World.shaped_of_RefB (by kernel_rfl) (by kernel_rfl)) (by kernel_rfl) (by kernel_rfl) (by kernel_rfl) (door_met os _)) ?_
  intro W base args ds gs before hval0 hW _ _ hL _
  have hval : ∀ (j : Nat) t v, Tryd.f4.params[j]? = some t → args[j]? = some v → Value.okWide Tryd.prog W .any base t v := hval0
  have hW' := hW
  obtain ⟨p, q, hA0, hV, rfl, hfz, hnd⟩ := hW
  have hA : DataW.TrodAll enc Tryd.prog W 0 (fun _ => true) true Tryd.f4.params.toList args.toList ds p := hA0
  rw [Tryd.params4] at hA hval
  obtain ⟨v0, vs0, d0, ds0, p0, q0, hargs, rfl, rfl, h0, r0⟩ := trodAll_cons hA
  obtain ⟨v1, vs1, d1, ds1, p1, q1, rfl, rfl, rfl, h1, r1⟩ := trodAll_cons r0
  obtain ⟨v2, vs2, d2, ds2, p2, q2, rfl, rfl, rfl, h2, r2⟩ := trodAll_cons r1
  obtain ⟨rfl, rfl, rfl⟩ := trodAll_nil r2
  obtain rfl : args = #[v0, v1, v2] := by cases args; simp_all
  obtain ⟨rfl, rfl⟩ := trodVars_none hV
  have k0 := h0
  have lt0 : ∀ x ∈ p0, x.block < W.heap.size := by obtain ⟨m, hm⟩ := k0; exact DataW.trod_lt m _ _ _ hm
  have k1 := h1
  have lt1 : ∀ x ∈ p1, x.block < W.heap.size := by obtain ⟨m, hm⟩ := k1; exact DataW.trod_lt m _ _ _ hm
  have k2 := h2
  have lt2 : ∀ x ∈ p2, x.block < W.heap.size := by obtain ⟨m, hm⟩ := k2; exact DataW.trod_lt m _ _ _ hm
  obtain ⟨A0, n0, c0, l0, Ax0, nx0, cx0, lx0, o0, rfl, b0, bx0⟩ := open_span (hval 0 24 v0 rfl rfl) h0
  obtain ⟨A1, n1, c1, l1, Ax1, nx1, cx1, lx1, o1, rfl, b1, bx1⟩ := open_span (hval 1 24 v1 rfl rfl) h1
  obtain ⟨A2, n2, c2, l2, rfl, b2, nc2⟩ := open_byt (hval 2 22 v2 rfl rfl) h2
  clear hA0 hval0
  refine (walk A0 n0 c0 l0 Ax0 nx0 cx0 lx0 o0 A1 n1 c1 l1 Ax1 nx1 cx1 lx1 o1 A2 n2 c2 l2 W (of_laid hL) b0 bx0 b1 bx1 b2 nc2).mono fun e W' ⟨he, bel⟩ => ?_
  subst he
  exact ⟨_, rfl, _, _, _, [], _, [], hW', trodAll_mk1 (shut_bool Tryd.underlying4 _), (trodAll_cons_mk (Below.trod laidOut (by kernel_rfl) (of_decide_eq_true (by kernel_rfl)) k0 bel lt0) (trodAll_cons_mk (Below.trod laidOut (by kernel_rfl) (of_decide_eq_true (by kernel_rfl)) k1 bel lt1) (trodAll_cons_mk (Below.trod laidOut (by kernel_rfl) (of_decide_eq_true (by kernel_rfl)) k2 bel lt2) trodAll_mk0))), rfl, bel.frame _, fun h => by cases h⟩

set_option maxRecDepth 100000 in
theorem proved : Rows.BoundsMeetSaid :=
  OpenClaim.holds_of_wide 4 Tryd.f4 rfl rfl rfl rfl rfl rfl rfl ⟨rfl, rfl, rfl, rfl, rfl⟩ rfl rfl rfl rfl rfl (by kernel_rfl) Tryd.func4 (by kernel_rfl)
    (of_decide_eq_true (by kernel_rfl)) (by unfold Func.isWrapper; first | (rw [if_pos (by decide +kernel)]; kernel_rfl) | (rw [if_neg (by decide +kernel)]; exact ⟨rfl, rfl⟩))
    (fun os started H enc _ => lifted os started H enc)
set_option maxRecDepth 100000 in
theorem card_holds : Rows.BoundsMeetCardSaid :=
  Claim7.holds_tied_plain_at .later [] [.data] true _ false
    proved (fun _ h => by cases h) (by kernel_rfl) (fun _ h => by cases h) boundsMeet_row_tie rfl ⟨rfl, rfl⟩ (by kernel_rfl) rfl
    (fun f fn hf hfn => by
      obtain rfl : f = 4 := Option.some.inj ((show Tryd.prog.funcNamed "spunyarn/spunyarnlaw07.BoundsMeet" = some 4 by kernel_rfl).symm.trans hf) |>.symm
      obtain rfl : fn = Tryd.f4 := (Option.some.inj (Tryd.func4.symm.trans hfn)).symm
      exact ⟨by kernel_rfl, fun j t ht => by
        rw [Tryd.params4] at ht
        have hm : t ∈ [24, 24, 22] := by simpa using Array.mem_of_getElem? ht
        have hall : ([24, 24, 22].all fun u => !Tryd.prog.wantsStandIn u) = true := by kernel_rfl
        exact (show Tryd.prog.wantsStandIn t = false by simpa using List.all_eq_true.1 hall t hm)⟩)
    (by kernel_rfl)
end Go.Proofs.YtofccfbiappgaaaDoor.boundsMeet
