/-
  Proved here: the same things put in any order, and others that came and went between, end as kids of the same kind, with the same in the same order; what is done with a copy does not turn them; nothing that came in is turned. No condition.
-/
import Derived.Test.YtahmalmpbdfnhaaRow
import Derived.Test.YtahmalmpbdfnhaaKdTwo
import Derived.Deep.CutBlock
import Derived.Deep.DeepCutAuto
namespace Go.Proofs.Ytahmalmpbdfnhaa.kidsOrder
open Go.ChangeShapes Go.WideShapes Go.ChangeAt Go.RowKit

/-- Each thing is its byte. -/
def Self (es : List Ent) : Prop := ∀ x, hasE es x = true → getE es x = (x : Int)
theorem Self.set_ {es : List Ent} (h : Up es) (hs : Self es) (b : UInt8) : Self (setE es b (b.toNat : Int)) := by
  intro c hh
  rw [get_set h]
  rw [has_set h] at hh
  by_cases e : c = b.toNat
  · rw [if_pos e, e]
  · rw [if_neg e] at hh ⊢; exact hs c hh
/-- The first has the first k, the second the last k. -/
structure In1 (l : List UInt8) (m k : Nat) (l1 l2 : List Ent) : Prop where
  ha : ∀ x, hasE l1 x = true ↔ ∃ i u, i < k ∧ l[i]? = some u ∧ u.toNat = x
  hb : ∀ x, hasE l2 x = true ↔ ∃ i u, m ≤ i + k ∧ i < m ∧ l[i]? = some u ∧ u.toNat = x
  sa : Self l1
  sb : Self l2
section
variable {l ms : List UInt8} {m k : Nat} {es l1 l2 : List Ent} {u v : UInt8}
theorem In1.start (l : List UInt8) (m : Nat) : In1 l m 0 [] [] := by
  refine ⟨fun x => ?_, fun x => ?_, fun x h => ?_, fun x h => ?_⟩
  · constructor
    · intro h; simp [hasE, look] at h
    · rintro ⟨i, u, hi, _⟩; omega
  · constructor
    · intro h; simp [hasE, look] at h
    · rintro ⟨i, u, hi, hj, _⟩; omega
  · simp [hasE, look] at h
  · simp [hasE, look] at h
theorem In1.step (h : In1 l m k l1 l2) (h1 : Up l1) (h2 : Up l2) (hk : k < m) (hu : l[k]? = some u) (hv : l[m - 1 - k]? = some v) : In1 l m (k + 1) (setE l1 u (u.toNat : Int)) (setE l2 v (v.toNat : Int)) := by
  refine ⟨fun x => ?_, fun x => ?_, h.sa.set_ h1 u, h.sb.set_ h2 v⟩
  · rw [has_set h1]
    by_cases e : x = u.toNat
    · rw [if_pos e]
      exact ⟨fun _ => ⟨k, u, by omega, hu, e.symm⟩, fun _ => rfl⟩
    · rw [if_neg e, h.ha x]
      constructor
      · rintro ⟨i, a, hi, ha, hx⟩; exact ⟨i, a, by omega, ha, hx⟩
      · rintro ⟨i, a, hi, ha, hx⟩
        refine ⟨i, a, ?_, ha, hx⟩
        rcases Nat.lt_or_eq_of_le (show i ≤ k by omega) with q | q
        · exact q
        · subst q; rw [hu] at ha; cases ha; exact absurd hx.symm e
  · rw [has_set h2]
    by_cases e : x = v.toNat
    · rw [if_pos e]
      exact ⟨fun _ => ⟨m - 1 - k, v, by omega, by omega, hv, e.symm⟩, fun _ => rfl⟩
    · rw [if_neg e, h.hb x]
      constructor
      · rintro ⟨i, a, hi, hj, ha, hx⟩; exact ⟨i, a, by omega, hj, ha, hx⟩
      · rintro ⟨i, a, hi, hj, ha, hx⟩
        refine ⟨i, a, ?_, hj, ha, hx⟩
        rcases Nat.lt_or_eq_of_le (show m - 1 - k ≤ i by omega) with q | q
        · omega
        · subst q; rw [hv] at ha; cases ha; exact absurd hx.symm e
theorem In1.done (h : In1 l m m l1 l2) (h1 : Up l1) (h2 : Up l2) : l1 = l2 := by
  have hh : ∀ x, hasE l1 x = true ↔ hasE l2 x = true := fun x => by
    rw [h.ha x, h.hb x]
    constructor
    · rintro ⟨i, a, hi, ha, hx⟩; exact ⟨i, a, by omega, hi, ha, hx⟩
    · rintro ⟨i, a, hi, hj, ha, hx⟩; exact ⟨i, a, hj, ha, hx⟩
  refine up_same h1 h2 (fun x => ?_) (fun x q => ?_)
  · cases q1 : hasE l1 x <;> cases q2 : hasE l2 x
    · rfl
    · have := (hh x).2 q2; rw [q1] at this; cases this
    · have := (hh x).1 q1; rw [q2] at this; cases this
    · rfl
  · rw [h.sa x q, h.sb x ((hh x).1 q)]
/-- What es holds is held; what is held besides is among the places of ms from a on, up to b. -/
structure In2 (es : List Ent) (ms : List UInt8) (a b : Nat) (l2 : List Ent) : Prop where
  yes : ∀ x, hasE es x = true → hasE l2 x = true ∧ getE l2 x = getE es x
  no : ∀ x, hasE es x = false → hasE l2 x = true → ∃ i u, a ≤ i ∧ i < b ∧ ms[i]? = some u ∧ u.toNat = x
theorem In2.start (es : List Ent) (ms : List UInt8) : In2 es ms 0 0 es := ⟨fun _ h => ⟨h, rfl⟩, fun x h h' => by rw [h] at h'; cases h'⟩
theorem In2.skip {a b c : Nat} (h : In2 es ms a b l2) (hc : b ≤ c) : In2 es ms a c l2 := ⟨h.yes, fun x q1 q2 => by
  obtain ⟨i, u, h1, h2, h3⟩ := h.no x q1 q2
  exact ⟨i, u, h1, by omega, h3⟩⟩
theorem In2.put {a b : Nat} (h : In2 es ms a b l2) (h2 : Up l2) (ha : a ≤ b) (hu : ms[b]? = some u) (hn : hasE es u.toNat = false) (x : Th) : In2 es ms a (b + 1) (setE l2 u x) := by
  refine ⟨fun y q => ?_, fun y q1 q2 => ?_⟩
  · have e : y ≠ u.toNat := fun e => by rw [e, hn] at q; cases q
    rw [has_set h2, get_set h2, if_neg e, if_neg e]
    exact h.yes y q
  · rw [has_set h2] at q2
    by_cases e : y = u.toNat
    · exact ⟨b, u, ha, by omega, hu, e.symm⟩
    · rw [if_neg e] at q2
      obtain ⟨i, v, r1, r2, r3⟩ := h.no y q1 q2
      exact ⟨i, v, r1, by omega, r3⟩
theorem In2.pass {a b : Nat} (h : In2 es ms a b l2) (hu : ms[a]? = some u) (hn : hasE es u.toNat = true) : In2 es ms (a + 1) b l2 := by
  refine ⟨h.yes, fun y q1 q2 => ?_⟩
  obtain ⟨i, v, r1, r2, r3, r4⟩ := h.no y q1 q2
  refine ⟨i, v, ?_, r2, r3, r4⟩
  rcases Nat.lt_or_eq_of_le r1 with q | q
  · exact q
  · subst q; rw [hu] at r3; cases r3; rw [r4, q1] at hn; cases hn
theorem In2.take {a b : Nat} (h : In2 es ms a b l2) (h2 : Up l2) (hu : ms[a]? = some u) (hn : hasE es u.toNat = false) : In2 es ms (a + 1) b (dropE l2 u) := by
  refine ⟨fun y q => ?_, fun y q1 q2 => ?_⟩
  · have e : y ≠ u.toNat := fun e => by rw [e, hn] at q; cases q
    rw [has_drop h2, get_drop h2, if_neg e, if_neg e]
    exact h.yes y q
  · rw [has_drop h2] at q2
    by_cases e : y = u.toNat
    · rw [if_pos e] at q2; cases q2
    · rw [if_neg e] at q2
      obtain ⟨i, v, r1, r2, r3, r4⟩ := h.no y q1 q2
      refine ⟨i, v, ?_, r2, r3, r4⟩
      rcases Nat.lt_or_eq_of_le r1 with q | q
      · exact q
      · subst q; rw [hu] at r3; cases r3; exact absurd r4.symm e
theorem In2.done {b : Nat} (h : In2 es ms b b l2) (h1 : Up es) (h2 : Up l2) : l2 = es := by
  refine (up_same h1 h2 (fun x => ?_) (fun x q => (h.yes x q).2.symm)).symm
  cases q : hasE es x with
  | true => exact (h.yes x q).1.symm
  | false =>
    cases q2 : hasE l2 x with
    | false => rfl
    | true => obtain ⟨i, u, r1, r2, _⟩ := h.no x q q2; omega
end
theorem byt_at {w W : World} {B n k : Nat} {A : Option Addr} {l : List UInt8} (h : Byt w B A n l) (hb : Below B w W) (hk : k < n) : ∃ ad u, A = some ad ∧ l[k]? = some u ∧ W.cell? (ad.add k) = some (.int .u8 (u.toNat : Int)) := by
  obtain ⟨ad, e, hlt, hc⟩ := (h.below hb).2.2 (by omega)
  have hk' : k < l.length := by rw [h.1]; exact hk
  exact ⟨ad, l[k], e, List.getElem?_eq_getElem hk', hc k _ (List.getElem?_eq_getElem hk')⟩

set_option maxRecDepth 100000 in
set_option maxHeartbeats 8000000 in
theorem walk (A : Option Addr) (n c : Nat) (l : List UInt8) (A2 : Option Addr) (n2 c2 : Nat) (ms : List UInt8) (w : World) (hl : Byt w w.heap.size A n l) (nc : n ≤ c) (hm : Byt w w.heap.size A2 n2 ms) (nc2 : n2 ≤ c2) :
    Calls Try.prog 5 #[.slice A n c, .slice A2 n2 c2] w fun e w' => e = .returned (.bool true) ∧ Below w.heap.size w w' := by
  have hmx : n ≤ 9223372036854775807 := by have := hl.2.1; unfold maxLen at this; omega
  have hmx2 : n2 ≤ 9223372036854775807 := by have := hm.2.1; unfold maxLen at this; omega
  have C := Lib.hid (pr_new w)
  have HL := Lib.hid hl
  have HM := Lib.hid hm
  clear hl hm
  go_enter Try.func5, Try.ntmps5
  go_wp2_with fail
  (with_reducible refine C.out.mono ?_)
  rintro e w1 ⟨ga, rfl, D⟩
  have HD := Lib.hid D
  clear D C
  go_wp2_with fail
  (with_reducible refine HD.out.mono ?_)
  rintro e w2 ⟨gb, rfl, p0⟩
  have P0 := Lib.hid p0
  clear p0 HD
  go_upto_region 4 with fail
  go_cut [0, 1] (fun s0 s1 wc => ∃ m m2 : Nat, m ≤ n ∧ m ≤ 300 ∧ m2 ≤ n2 ∧ m2 ≤ 300 ∧ s0 = .slice A m c ∧ s1 = .slice A2 m2 c2 ∧ Hid (Pr w ga [] gb [] wc))
  case first =>
    by_cases h1 : n ≤ 300
    all_goals by_cases h2 : n2 ≤ 300
    all_goals
      go_quiet (fail)
      go_wp2_with fail
      go_meet
    · exact ⟨n, n2, Nat.le_refl _, h1, Nat.le_refl _, h2, rfl, rfl, Lib.hid (P0.out.drewN _)⟩
    · exact ⟨n, 300, Nat.le_refl _, h1, by omega, Nat.le_refl _, rfl, rfl, Lib.hid (P0.out.drewN _)⟩
    · exact ⟨300, n2, by omega, Nat.le_refl _, Nat.le_refl _, h2, rfl, rfl, Lib.hid (P0.out.drewN _)⟩
    · exact ⟨300, 300, by omega, Nat.le_refl _, by omega, Nat.le_refl _, rfl, rfl, Lib.hid (P0.out.drewN _)⟩
  case rest =>
    obtain ⟨m, m2, hmn, hm3, hmn2, hm23, rfl, rfl, PC⟩ := hcut
    go_wp2_with fail
    go_loopw [48] (fun i wr => ∃ (k : Nat) (l1 l2 : List Ent), k ≤ m ∧ i = .int .i64 k ∧ Hid (In1 l m k l1 l2) ∧ Hid (Pr w ga l1 gb l2 wr)) (fun i _ => m - (intOf i).toNat)
    case atStart => exact ⟨0, [], [], Nat.zero_le _, rfl, Lib.hid (In1.start l m), PC⟩
    case round =>
      obtain ⟨k, l1, l2, hk, rfl, I1, P1⟩ := hrel
      by_cases hkm : k < m
      · obtain ⟨ad, u, rfl, hu, hc⟩ := byt_at HL.out P1.out.below (show k < n by omega)
        obtain ⟨j, hj⟩ : ∃ j, m - 1 - k = j := ⟨_, rfl⟩
        obtain ⟨ad', v, e', hv, hc'⟩ := byt_at HL.out P1.out.below (show j < n by omega)
        obtain rfl : ad = ad' := Option.some.inj e'
        have KP := Lib.hid (fun (W : World) (q : Below w.heap.size w W) => show W.cell? (ad.add k) = some (.int .u8 (u.toNat : Int)) ∧ W.cell? (ad.add j) = some (.int .u8 (v.toNat : Int)) from by
          obtain ⟨a1, u1, r1, r2, r3⟩ := byt_at HL.out q (show k < n by omega)
          obtain ⟨a2, u2, s1, s2, s3⟩ := byt_at HL.out q (show j < n by omega)
          cases r1; cases s1
          rw [hu] at r2; rw [hv] at s2
          cases r2; cases s2
          exact ⟨r3, s3⟩)
        have ST := Lib.hid (I1.out.step P1.out.own.up P1.out.swap.own.up hkm hu (by rw [hj]; exact hv))
        have CA := Lib.hid (fun (W : World) (h : Pr w ga l1 gb l2 W) => h.set_ u (u.toNat : Int) _ rfl)
        have CB := Lib.hid (fun (W : World) (h : Pr w ga (setE l1 u (u.toNat : Int)) gb l2 W) => h.swap.set_ v (v.toNat : Int) _ rfl)
        have ult := u.toNat_lt
        have vlt := v.toNat_lt
        have eu : IntKind.i64.wrap (u.toNat : Int) = (u.toNat : Int) := by rw [IntKind.wrap_i64]; omega
        have ev' : IntKind.i64.wrap (v.toNat : Int) = (v.toNat : Int) := by rw [IntKind.wrap_i64]; omega
        have hmb : m ≤ 300 := hm3
        obtain ⟨q, hq⟩ : ∃ q : Nat, (m : Int) - 1 = (q : Int) := ⟨m - 1, by omega⟩
        have e1 : IntKind.i64.wrap ((m : Int) - 1) = (q : Int) := by rw [IntKind.wrap_i64]; omega
        have e2 : IntKind.i64.wrap ((q : Int) - (k : Int)) = (j : Int) := by rw [IntKind.wrap_i64]; omega
        have e5 : (j : Int) < (m : Int) := by omega
        have e7 : j < m := by omega
        have e6 : IntKind.i64.wrap ((k : Int) + 1) = (k : Int) + 1 := by rw [IntKind.wrap_i64]; omega
        clear hu hv hj hc' e' hq
        go_wp2_with fail
        go_region_held3 (fun w' => w'.cell? (ad.add k) = some (.int .u8 (u.toNat : Int)))
          (first
          | exact (KP.out _ p1.below).1
          | exact (KP.out _ P1.out.below.drew).1
          | exact (KP.out _ P1.out.below).1)
          (first
          | (go_at_call 12; (with_reducible refine (CA.out _ (P1.out.on (Below.refl _ _).drew)).mono ?_); rintro e v1 ⟨rfl, p1⟩)
          | (go_at_call 12; (with_reducible refine (CA.out _ P1.out).mono ?_); rintro e v1 ⟨rfl, p1⟩))
        have P2 := Lib.hid p1
        have KQ := Lib.hid (fun (W : World) (q : Below w.heap.size w W) => (KP.out W q).2)
        clear p1 CA
        go_wp2_with fail
        have hcj : v1.cell? (ad.add j) = some (.int .u8 (v.toNat : Int)) := KQ.out _ P2.out.below
        go_region_held3 (fun w' => w'.cell? (ad.add j) = some (.int .u8 (v.toNat : Int)))
          (first
          | exact KQ.out _ p2.below
          | exact KQ.out _ P2.out.below.drew
          | exact KQ.out _ P2.out.below)
          (first
          | (go_at_call 12; (with_reducible refine (CB.out _ (P2.out.on (Below.refl _ _).drew)).mono ?_); rintro e v2 ⟨rfl, p2⟩)
          | (go_at_call 12; (with_reducible refine (CB.out _ P2.out).mono ?_); rintro e v2 ⟨rfl, p2⟩))
        have P3 := Lib.hid p2.swap
        clear p2 CB KP KQ hcj hc
        go_wp2
        exact ⟨⟨k + 1, _, _, by omega, by go_num, ST, P3⟩, by simp [intOf]; omega⟩
      · obtain rfl : k = m := by omega
        have E12 := I1.out.done P1.out.own.up P1.out.swap.own.up
        subst E12
        have SA := Lib.hid I1.out.sa
        have CP := Lib.hid P1.out.copy_
        clear I1
        go_wp2_with fail
        (with_reducible refine CP.out.mono ?_)
        rintro e w3 ⟨gc, rfl, t0⟩
        have T0 := Lib.hid t0
        clear t0 CP P1 PC
        go_wp2_with fail
        go_loopw [86] (fun i wr => ∃ (q : Nat) (l2 l3 : List Ent), q ≤ m2 ∧ i = .int .i64 q ∧ Hid (In2 l1 ms 0 q l2) ∧ Hid (Tr w ga l1 gb l2 gc l3 wr)) (fun i _ => m2 - (intOf i).toNat)
        case atStart => exact ⟨0, l1, l1, Nat.zero_le _, rfl, Lib.hid (In2.start l1 ms), T0⟩
        case round =>
          obtain ⟨q, l2, l3, hq, rfl, I2, T1⟩ := hrel
          by_cases hqm : q < m2
          · obtain ⟨ad, u, rfl, hu, hc⟩ := byt_at HM.out T1.out.below (show q < n2 by omega)
            have HU := Lib.hid hu
            have ult := u.toNat_lt
            have e6 : IntKind.i64.wrap ((q : Int) + 1) = (q : Int) + 1 := by rw [IntKind.wrap_i64]; omega
            have CC := Lib.hid (T1.out.roll.set_ u (-1) _ rfl)
            clear hu
            go_wp2_with fail
            (with_reducible refine CC.out.mono ?_)
            rintro e v1 ⟨rfl, t1⟩
            have T2 := Lib.hid t1.roll.roll
            have CG := Lib.hid (T2.out.own.get_ u _ rfl)
            clear t1 CC hc
            cases hh : hasE l1 u.toNat with
            | true =>
              rw [hh] at CG
              clear hh
              go_wp2_with fail
              (with_reducible refine CG.out.mono ?_)
              rintro e v2 ⟨rfl, nq, rfl⟩
              go_wp2
              exact ⟨⟨q + 1, l2, _, by omega, by go_num, Lib.hid (I2.out.skip (Nat.le_succ _)), Lib.hid (T2.out.drewN nq)⟩, by simp [intOf]; omega⟩
            | false =>
              rw [hh] at CG
              have HH := Lib.hid hh
              clear hh
              go_wp2_with fail
              (with_reducible refine CG.out.mono ?_)
              rintro e v2 ⟨rfl, nq, rfl⟩
              have CB := Lib.hid ((T2.out.drewN nq).swap.set_ u 7 _ rfl)
              go_wp2_with fail
              (with_reducible refine CB.out.mono ?_)
              rintro e v3 ⟨rfl, t3⟩
              have T3 := Lib.hid t3.swap
              have I3 := Lib.hid (I2.out.put T1.out.swap.own.up (Nat.zero_le _) HU.out HH.out 7)
              clear t3 CB CG
              go_wp2
              exact ⟨⟨q + 1, _, _, by omega, by go_num, I3, T3⟩, by simp [intOf]; omega⟩
          · obtain rfl : q = m2 := by omega
            have T9 := T1
            have I9 := I2
            clear T1 I2 T0
            go_wp2_with fail
            go_loopw [107] (fun i wr => ∃ (p : Nat) (l2 l3 : List Ent), p ≤ q ∧ i = .int .i64 p ∧ Hid (In2 l1 ms p q l2) ∧ Hid (Tr w ga l1 gb l2 gc l3 wr)) (fun i _ => q - (intOf i).toNat)
            case atStart => exact ⟨0, l2, l3, Nat.zero_le _, rfl, I9, T9⟩
            case round =>
              obtain ⟨p, l4, l5, hp, rfl, I2, T1⟩ := hrel
              by_cases hpm : p < q
              · obtain ⟨ad, u, rfl, hu, hc⟩ := byt_at HM.out T1.out.below (show p < n2 by omega)
                have HU := Lib.hid hu
                have ult := u.toNat_lt
                have e6 : IntKind.i64.wrap ((p : Int) + 1) = (p : Int) + 1 := by rw [IntKind.wrap_i64]; omega
                have CG := Lib.hid (T1.out.own.get_ u _ rfl)
                clear hu
                cases hh : hasE l1 u.toNat with
                | true =>
                  rw [hh] at CG
                  have HH := Lib.hid hh
                  clear hh
                  go_wp2_with fail
                  (with_reducible refine CG.out.mono ?_)
                  rintro e v2 ⟨rfl, nq, rfl⟩
                  have CC := Lib.hid ((T1.out.drewN nq).roll.drop_ u _ rfl)
                  go_wp2_with fail
                  (with_reducible refine CC.out.mono ?_)
                  rintro e v3 ⟨rfl, t3⟩
                  have T3 := Lib.hid t3.roll.roll
                  have I3 := Lib.hid (I2.out.pass HU.out HH.out)
                  clear t3 CC CG hc
                  go_wp2
                  exact ⟨⟨p + 1, l4, _, by omega, by go_num, I3, T3⟩, by simp [intOf]; omega⟩
                | false =>
                  rw [hh] at CG
                  have HH := Lib.hid hh
                  clear hh
                  go_wp2_with fail
                  (with_reducible refine CG.out.mono ?_)
                  rintro e v2 ⟨rfl, nq, rfl⟩
                  have CB := Lib.hid ((T1.out.drewN nq).swap.drop_ u _ rfl)
                  go_wp2_with fail
                  (with_reducible refine CB.out.mono ?_)
                  rintro e v3 ⟨rfl, t3⟩
                  have T3 := Lib.hid t3.swap
                  have CC := Lib.hid (T3.out.roll.drop_ u _ rfl)
                  have I3 := Lib.hid (I2.out.take T1.out.swap.own.up HU.out HH.out)
                  clear t3 CB CG hc
                  go_wp2_with fail
                  (with_reducible refine CC.out.mono ?_)
                  rintro e v4 ⟨rfl, t4⟩
                  have T4 := Lib.hid t4.roll.roll
                  clear t4 CC
                  go_wp2
                  exact ⟨⟨p + 1, _, _, by omega, by go_num, I3, T4⟩, by simp [intOf]; omega⟩
              · obtain rfl : p = q := by omega
                have E4 := I2.out.done T1.out.own.up T1.out.swap.own.up
                subst E4
                have T8 := T1
                clear T1 I2 T9 I9
                go_wp2_with fail
                go_loopw [126] (fun i wr => ∃ (x : Nat), x ≤ 256 ∧ i = .int .i64 x ∧ Hid (Tr w ga l4 gb l4 gc l5 wr)) (fun i _ => 256 - (intOf i).toNat)
                case atStart => exact ⟨0, Nat.zero_le _, rfl, T8⟩
                case round =>
                  obtain ⟨x, hx, rfl, T1⟩ := hrel
                  by_cases hx2 : x < 256
                  · have e8 : IntKind.u8.wrap (x : Int) = (x : Int) := by rw [IntKind.wrap_u8]; omega
                    have e6 : IntKind.i64.wrap ((x : Int) + 1) = (x : Int) + 1 := by rw [IntKind.wrap_i64]; omega
                    have eb8 : (UInt8.ofNat x).toNat = x := by rw [UInt8.toNat_ofNat']; omega
                    have CG := Lib.hid (fun (W : World) (g : Nat) (h : KOwn 0 (fun _ => False) W g l4) => (show Calls Try.prog 14 #[.pointer (some ⟨g, 0, none⟩), .int .u8 (x : Int)] W fun e w' => e = .returned (.tuple #[.int .i64 (getE l4 x), .bool (hasE l4 x)]) ∧ Still W w' from by
                      have := h.get_ (UInt8.ofNat x) (x : Int) (by rw [eb8])
                      rwa [eb8] at this))
                    have CN := Lib.hid (fun (W : World) (g : Nat) (h : KOwn 0 (fun _ => False) W g l4) => h.next_ (x : Int) (by omega))
                    obtain ⟨nb, hnb⟩ : ∃ nb, eb (nextE l4 (x : Int)) = nb := ⟨_, rfl⟩
                    obtain ⟨nv, hnv⟩ : ∃ nv, ex (nextE l4 (x : Int)) = nv := ⟨_, rfl⟩
                    obtain ⟨ni, hni⟩ : ∃ ni, (nextE l4 (x : Int)).isSome = ni := ⟨_, rfl⟩
                    simp only [entV, hnb, hnv, hni] at CN
                    have HS := SA.out x
                    obtain ⟨vv, hvv⟩ : ∃ vv, getE l4 x = vv := ⟨_, rfl⟩
                    rw [hvv] at CG HS
                    clear hnb hnv hni eb8 hvv
                    cases hh : hasE l4 x
                    all_goals
                      rw [hh] at CG HS
                      first
                        | (have hv2 : vv = (x : Int) := HS rfl; subst hv2)
                        | skip
                      clear HS hh
                      go_wp2_with fail
                      (with_reducible refine (CG.out _ _ T1.out.own).mono ?_)
                      rintro e v1 ⟨rfl, n1, rfl⟩
                      go_wp2_with fail
                      (with_reducible refine (CG.out _ _ (T1.out.drewN n1).swap.own).mono ?_)
                      rintro e v2 ⟨rfl, n3, rfl⟩
                      go_wp2_with fail
                      (with_reducible refine (CN.out _ _ (T1.out.drewN (n1 + n3)).own).mono ?_)
                      rintro e v3 ⟨rfl, n4, rfl⟩
                      go_wp2_with fail
                      (with_reducible refine (CN.out _ _ (T1.out.drewN (n1 + n3 + n4)).swap.own).mono ?_)
                      rintro e v4 ⟨rfl, n5, rfl⟩
                      go_wp2
                      exact ⟨⟨x + 1, by omega, by go_num, Lib.hid (T1.out.drewN _)⟩, by simp [intOf]; omega⟩
                  · obtain rfl : x = 256 := by omega
                    have CK := Lib.hid (fun (W : World) (g : Nat) (h : KOwn 0 (fun _ => False) W g l4) => h.kind_)
                    have CL := Lib.hid (fun (W : World) (g : Nat) (h : KOwn 0 (fun _ => False) W g l4) => h.len_)
                    generalize (kindN l4.length : Int) = kn at CK
                    generalize (l4.length : Int) = ln at CL
                    go_wp2_with fail
                    (with_reducible refine (CK.out _ _ T1.out.own).mono ?_)
                    rintro e v1 ⟨rfl, n1, rfl⟩
                    go_wp2_with fail
                    (with_reducible refine (CK.out _ _ (T1.out.drewN n1).swap.own).mono ?_)
                    rintro e v2 ⟨rfl, n3, rfl⟩
                    go_wp2_with fail
                    (with_reducible refine (CL.out _ _ (T1.out.drewN (n1 + n3)).own).mono ?_)
                    rintro e v3 ⟨rfl, n4, rfl⟩
                    go_wp2_with fail
                    (with_reducible refine (CL.out _ _ (T1.out.drewN (n1 + n3 + n4)).swap.own).mono ?_)
                    rintro e v4 ⟨rfl, n5, rfl⟩
                    go_wp2_with fail
                    (with_reducible refine (kalive_any _).mono ?_)
                    rintro e v5 ⟨rfl, h5⟩
                    have B5 := Lib.hid ((below_drewN T1.out.below _).trans (h5.mono (by exact T1.out.below.size)))
                    clear h5
                    go_wp2
                    go_ret
                    exact ⟨rfl, B5.out⟩

set_option maxRecDepth 100000 in
theorem lifted (os : Os) (started : os.Started) (H : Type) (enc : TypeId × Value → H) :
    ReturnsInHanded {} Try.checked os 5 .any (Rows.kidsOrderSpec.pre6 enc Try.prog Try.f5 Rows.kidsOrderRow.domain false) (Rows.kidsOrderSpec.post enc Try.prog Try.f5 false true false false) := by
  refine returnsInHanded_of_change (C := Try.checked) own started (by kernel_rfl) Try.func5
    (ChangeSpec.witness6 (enc := enc) (C := Try.checked) false ⟨#[], #[.slice none 0 0, .slice none 0 0], []⟩ 8 (by kernel_rfl) (by kernel_rfl) (by kernel_rfl) (by kernel_rfl)) ?_
  intro W base args ds gs before hval0 hW hcnd _
  have hval : ∀ (j : Nat) t v, Try.f5.params[j]? = some t → args[j]? = some v → Value.okWide Try.prog W .any base t v := hval0
  have hW' := hW
  obtain ⟨p, q, hA0, hV, rfl, hfz, hnd⟩ := hW
  have hA : DataW.TrodAll enc Try.prog W 0 (fun _ => true) true Try.f5.params.toList args.toList ds p := hA0
  rw [Try.params5] at hA hval
  obtain ⟨v0, vs0, d0, ds0, p0, q0, hargs, rfl, rfl, h0, r0⟩ := trodAll_cons hA
  obtain ⟨v1, vs1, d1, ds1, p1, q1, rfl, rfl, rfl, h1, r1⟩ := trodAll_cons r0
  obtain ⟨rfl, rfl, rfl⟩ := trodAll_nil r1
  obtain rfl : args = #[v0, v1] := by cases args; simp_all
  obtain ⟨rfl, rfl⟩ := trodVars_none hV
  have k0 := h0
  have lt0 : ∀ x ∈ p0, x.block < W.heap.size := by obtain ⟨m, hm⟩ := k0; exact DataW.trod_lt m _ _ _ hm
  have k1 := h1
  have lt1 : ∀ x ∈ p1, x.block < W.heap.size := by obtain ⟨m, hm⟩ := k1; exact DataW.trod_lt m _ _ _ hm
  obtain ⟨A0, n0, c0, l0, rfl, b0, nc0⟩ := open_byt (hval 0 48 v0 rfl rfl) h0
  obtain ⟨A1, n1, c1, l1, rfl, b1, nc1⟩ := open_byt (hval 1 48 v1 rfl rfl) h1
  clear hA0 hval0
  refine (walk A0 n0 c0 l0 A1 n1 c1 l1 W b0 nc0 b1 nc1).mono fun e W' ⟨he, bel⟩ => ?_
  subst he
  exact ⟨_, rfl, _, _, _, [], _, [], hW', trodAll_mk1 (shut_bool Try.underlying4 _), (trodAll_cons_mk (Below.trod laidOut (by kernel_rfl) (of_decide_eq_true (by kernel_rfl)) k0 bel lt0) (trodAll_cons_mk (Below.trod laidOut (by kernel_rfl) (of_decide_eq_true (by kernel_rfl)) k1 bel lt1) trodAll_mk0)), rfl, bel.frame _, fun h => by cases h⟩

set_option maxRecDepth 100000 in
theorem proved : Rows.KidsOrderSaid :=
  OpenClaim.holds_of_wide 5 Try.f5 rfl rfl rfl rfl rfl rfl rfl ⟨rfl, rfl, rfl, rfl, rfl⟩ rfl rfl rfl rfl rfl (by kernel_rfl) Try.func5 (by kernel_rfl)
    (of_decide_eq_true (by kernel_rfl)) (by unfold Func.isWrapper; first | (rw [if_pos (by decide +kernel)]; kernel_rfl) | (rw [if_neg (by decide +kernel)]; exact ⟨rfl, rfl⟩))
    (fun os started H enc _ => lifted os started H enc)
end Go.Proofs.Ytahmalmpbdfnhaa.kidsOrder
