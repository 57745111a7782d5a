/-
  Proved here: the text that any bytes begin with, the bytes behind it, and where its end is, as senc.Take and senc.End tell them, are the document's, or refused as it refuses; nothing that came in is turned. No condition.
-/
import Derived.Test.YtggnfigkihkabaaRow
import Derived.Test.YtggnfigkihkabaaSencD
namespace Go.Proofs.Ytggnfigkihkabaa.sencTakes
open Go.ChangeShapes Go.WideShapes Go.ChangeAt Go.RowKit

set_option maxHeartbeats 1000000 in
theorem walk (A : Option Addr) (n c : Nat) (l : List UInt8) (w : World) (ha : Byt w w.heap.size A n l) (hnc : n ≤ c) :
    Calls Try.prog 4 #[.slice A n c] w fun e w' => e = .returned (.bool true) ∧ Below w.heap.size w w' := by
  have hna : n ≤ 9223372036854775807 := by have := ha.2.1; unfold maxLen at this; omega
  have HN := Lib.hid ha.1
  have hk : ∀ W, Below w.heap.size w W → Byt W w.heap.size A n l := fun W h => ha.below h
  have HK := Lib.hid hk
  clear hk
  by_cases hg : 500 < n
  · clear ha
    go_enter Try.func4, Try.ntmps4
    go_wp2_with fail
    (with_reducible refine (alive_any _).mono ?_)
    rintro e w4 ⟨rfl, h4⟩
    have B4 := Lib.hid h4
    clear h4
    go_wp2
    go_ret
    exact ⟨rfl, B4.out⟩
  · cases hs : scan l with
    | bad er =>
      have e0 : er ≠ 0 := fun q => by
        obtain ⟨t, z, h⟩ := scan_E l (by rw [hs]; exact q)
        rw [hs] at h; cases h
      have e1 : (er != 0) = true := by rw [bne_iff_ne]; exact e0
      have HT : Hid (∀ W, Below w.heap.size w W → Calls Try.prog 13 #[.slice A n c] W (STakePost W [] [] er)) := Lib.hid (fun W h => by
        have h2 := stake_any A n c w.heap.size l W (HK.out _ h) hnc h.size (by omega)
        rw [hs] at h2; exact h2)
      have HR : Hid (∀ W, Below w.heap.size w W → Calls Try.prog 14 #[.slice A n c] W (RTakePost W [] 0 er)) := Lib.hid (fun W h => by
        have h2 := rstake_any A n c w.heap.size l W (HK.out _ h) h.size (by omega)
        rw [hs] at h2; exact h2)
      have HE : Hid (∀ W, Below w.heap.size w W → Calls Try.prog 15 #[.slice A n c] W fun e w' => e = .returned (.tuple #[.int .i64 0, .int .i64 er]) ∧ W = w') := Lib.hid (fun W h => by
        have h2 := end_any A n c w.heap.size l W (HK.out _ h)
        rw [hs] at h2; exact h2)
      clear hs ha
      go_enter Try.func4, Try.ntmps4
      go_wp2_with fail
      (with_reducible refine (HT.out _ (Below.refl _ _)).mono ?_)
      rintro e w1 ⟨A1, n1, c1, A1', n1', c1', rfl, y1, y1', _, _, h1⟩
      obtain rfl : n1' = 0 := y1'.1.symm
      have B1 := Lib.hid h1
      have Y1 := Lib.hid y1
      clear h1 y1 y1'
      go_wp2_with fail
      (with_reducible refine (HR.out _ B1.out).mono ?_)
      rintro e w2 ⟨A2, n2, c2, rfl, y2, h2⟩
      have B2 := Lib.hid (B1.out.trans (h2.mono B1.out.size))
      have Y2 := Lib.hid y2
      have Y1' := Lib.hid ((Y1.out.below h2).more h2.size)
      clear h2 y2
      go_wp2_with fail
      (with_reducible refine (HE.out _ B2.out).mono ?_)
      rintro e w' ⟨rfl, rfl⟩
      go_wp2_with fail
      (with_reducible refine (rsame_any _ _ _ _ _ _ w2.heap.size [] [] _ Y1'.out Y2.out).mono ?_)
      rintro e w3 ⟨rfl, h3⟩
      rw [show sameB [] [] = true from by simp [sameB]]
      have B3 := Lib.hid (B2.out.trans (h3.below _))
      clear h3
      go_wp2_with fail
      (with_reducible refine (alive_any _).mono ?_)
      rintro e w4 ⟨rfl, h4⟩
      have B4 := Lib.hid (B3.out.trans (h4.mono B3.out.size))
      clear h4
      go_wp2
      go_ret
      exact ⟨rfl, B4.out⟩
    | ok t z =>
      obtain ⟨hz1, hz2, hz3⟩ := scan_len hs
      obtain ⟨j, hj⟩ : ∃ j, n = z + j := ⟨n - z, by have := HN.out; omega⟩
      subst hj
      obtain ⟨ad, u, rfl, _, _, _⟩ := ha.at_ (k := 0) (by omega)
      have HT : Hid (∀ W, Below w.heap.size w W → Calls Try.prog 13 #[.slice (some ad) (z + j) c] W (STakePost W t (l.drop z) 0)) := Lib.hid (fun W h => by
        have h2 := stake_any (some ad) (z + j) c w.heap.size l W (HK.out _ h) hnc h.size (by omega)
        rw [hs] at h2; exact h2)
      have HR : Hid (∀ W, Below w.heap.size w W → Calls Try.prog 14 #[.slice (some ad) (z + j) c] W (RTakePost W t (z : Int) 0)) := Lib.hid (fun W h => by
        have h2 := rstake_any (some ad) (z + j) c w.heap.size l W (HK.out _ h) h.size (by omega)
        rw [hs] at h2; exact h2)
      have HE : Hid (∀ W, Below w.heap.size w W → Calls Try.prog 15 #[.slice (some ad) (z + j) c] W fun e w' => e = .returned (.tuple #[.int .i64 (z : Int), .int .i64 0]) ∧ W = w') := Lib.hid (fun W h => by
        have h2 := end_any (some ad) (z + j) c w.heap.size l W (HK.out _ h)
        rw [hs] at h2; exact h2)
      obtain ⟨A', hsl, hby⟩ := slice_from (P := Try.prog) Try.underlying22 size_u8 ad z j c hnc
      have HY := Lib.hid hby
      clear hs ha hz1 hz2 hz3 hby
      go_enter Try.func4, Try.ntmps4
      go_wp2_with fail
      (with_reducible refine (HT.out _ (Below.refl _ _)).mono ?_)
      rintro e w1 ⟨A1, n1, c1, A1', n1', c1', rfl, y1, y1', _, _, h1⟩
      have B1 := Lib.hid h1
      have Y1 := Lib.hid y1
      have X1 := Lib.hid y1'
      clear h1 y1 y1'
      go_wp2_with fail
      (with_reducible refine (HR.out _ B1.out).mono ?_)
      rintro e w2 ⟨A2, n2, c2, rfl, y2, h2⟩
      have B2 := Lib.hid (B1.out.trans (h2.mono B1.out.size))
      have Y2 := Lib.hid y2
      have Y1' := Lib.hid ((Y1.out.below h2).more h2.size)
      have X2 := Lib.hid ((X1.out.below h2).more h2.size)
      clear h2 y2
      go_wp2_with fail
      (with_reducible refine (HE.out _ B2.out).mono ?_)
      rintro e w' ⟨rfl, rfl⟩
      go_wp2_with fail
      (with_reducible refine (rsame_any _ _ _ _ _ _ w2.heap.size t t _ Y1'.out Y2.out).mono ?_)
      rintro e w3 ⟨rfl, h3⟩
      rw [show sameB t t = true from by simp [sameB]]
      have B3 := Lib.hid (B2.out.trans (h3.below _))
      have X3 := Lib.hid (X2.out.below (h3.below _))
      clear h3
      go_wp2_with fail
      (with_reducible refine (rsame_any _ _ _ _ _ _ w2.heap.size (l.drop z) (l.drop z) _ X3.out ((HY.out _ _ _ (HK.out _ B3.out)).more B2.out.size)).mono ?_)
      rintro e w4 ⟨rfl, h4⟩
      rw [show sameB (l.drop z) (l.drop z) = true from by simp [sameB]]
      have B4 := Lib.hid (B3.out.trans (h4.below _))
      clear h4
      go_wp2_with fail
      (with_reducible refine (alive_any _).mono ?_)
      rintro e w5 ⟨rfl, h5⟩
      have B5 := Lib.hid (B4.out.trans (h5.mono B4.out.size))
      clear h5
      go_wp2
      go_ret
      exact ⟨rfl, B5.out⟩

set_option maxRecDepth 100000 in
theorem lifted (os : Os) (started : os.Started) (H : Type) (enc : TypeId × Value → H) :
    ReturnsInHanded {} Try.checked os 4 .any (Rows.sencTakesSpec.pre6 enc Try.prog Try.f4 Rows.sencTakesRow.domain false) (Rows.sencTakesSpec.post enc Try.prog Try.f4 false true false false) := by
  refine returnsInHanded_of_change (C := Try.checked) own started (by kernel_rfl) Try.func4
    (ChangeSpec.witness6 (enc := enc) (C := Try.checked) false ⟨#[], #[.slice none 0 0], []⟩ 8 (by kernel_rfl) (by kernel_rfl) (by kernel_rfl) (by kernel_rfl)) ?_
  intro W base args ds gs before hval0 hW hcnd _
  have hval : ∀ (j : Nat) t v, Try.f4.params[j]? = some t → args[j]? = some v → Value.okWide Try.prog W .any base t v := hval0
  have hW' := hW
  obtain ⟨p, q, hA0, hV, rfl, hfz, hnd⟩ := hW
  have hA : DataW.TrodAll enc Try.prog W 0 (fun _ => true) true Try.f4.params.toList args.toList ds p := hA0
  rw [Try.params4] at hA hval
  obtain ⟨v0, vs0, d0, ds0, p0, q0, hargs, rfl, rfl, h0, r0⟩ := trodAll_cons hA
  obtain ⟨rfl, rfl, rfl⟩ := trodAll_nil r0
  obtain rfl : args = #[v0] := by cases args; simp_all
  obtain ⟨rfl, rfl⟩ := trodVars_none hV
  have k0 := h0
  have lt0 : ∀ x ∈ p0, x.block < W.heap.size := by obtain ⟨m, hm⟩ := k0; exact DataW.trod_lt m _ _ _ hm
  obtain ⟨A0, n0, c0, l0, rfl, b0, nc0⟩ := open_byt (hval 0 22 v0 rfl rfl) h0
  clear hA0 hval0
  refine (walk A0 n0 c0 l0 W b0 nc0).mono fun e W' ⟨he, bel⟩ => ?_
  subst he
  exact ⟨_, rfl, _, _, _, [], _, [], hW', trodAll_mk1 (shut_bool Try.underlying4 _), (trodAll_cons_mk (Below.trod laidOut (by kernel_rfl) (of_decide_eq_true (by kernel_rfl)) k0 bel lt0) trodAll_mk0), rfl, bel.frame _, fun h => by cases h⟩

theorem proved : Rows.SencTakesSaid :=
  OpenClaim.holds_of_wide 4 Try.f4 rfl rfl rfl rfl rfl rfl rfl ⟨rfl, rfl, rfl, rfl, rfl⟩ rfl rfl rfl rfl rfl (by kernel_rfl) Try.func4 (by kernel_rfl)
    (of_decide_eq_true (by kernel_rfl)) (by unfold Func.isWrapper; first | (rw [if_pos (by decide +kernel)]; kernel_rfl) | (rw [if_neg (by decide +kernel)]; exact ⟨rfl, rfl⟩))
    (fun os started H enc _ => lifted os started H enc)
#print axioms proved
end Go.Proofs.Ytggnfigkihkabaa.sencTakes
