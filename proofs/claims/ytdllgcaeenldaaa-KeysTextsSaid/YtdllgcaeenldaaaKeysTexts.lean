/-
  Proved here: any key's text, and the key of any text, as keys.Text and keys.Parse tell them, are the document's, or refused as it refuses; a text is parsed; keys.May refuses just keys of more than 65535 bytes; nothing that came in is turned. No condition.
-/
import Derived.Test.YtdllgcaeenldaaaRow
import Derived.Test.YtdllgcaeenldaaaAlive
namespace Go.Proofs.Ytdllgcaeenldaaa.keysTexts
open Go.ChangeShapes Go.WideShapes Go.ChangeAt Go.RowKit
open Go.ChangeMaps (open_string shut_string)

theorem may_yes (A : Option Addr) (n c : Nat) (w : World) (hn : n ≤ 65535) : Calls Try.prog 20 #[.slice A n c] w fun e w' => e = .returned (.int .i64 0) ∧ w = w' := by
  have h := may_any A n c w (by omega)
  rwa [if_pos hn] at h
theorem may_no (A : Option Addr) (n c : Nat) (w : World) (hn : 65535 < n) (hm : n ≤ 70000) : Calls Try.prog 20 #[.slice A n c] w fun e w' => e = .returned (.int .i64 8) ∧ w = w' := by
  have h := may_any A n c w (by omega)
  rwa [if_neg (by omega)] at h
theorem parse_of_text {l : List UInt8} {n : Nat} (h : l.length = n) (hn : n ≤ 300) : parseR (bstr (textL l)).data.toList = (l, 0) := by
  rw [bstr_toList]
  exact parse_ok (n := 2 * n) (by rw [textL_length]; omega) (by omega) (by omega) (parse_text l)

set_option maxHeartbeats 2000000 in
theorem walk (A : Option Addr) (n c : Nat) (l : List UInt8) (s : ByteArray) (w : World) (ha : Byt w w.heap.size A n l) (_ : n ≤ c) (hs : s.size ≤ maxLen) :
    Calls Try.prog 5 #[.slice A n c, .string s] w fun e w' => e = .returned (.bool true) ∧ Below w.heap.size w w' := by
  have hs' : s.size ≤ 9223372036854775807 := by unfold maxLen at hs; omega
  have hna : n ≤ 9223372036854775807 := by have := ha.2.1; unfold maxLen at this; omega
  clear hs
  have HN := Lib.hid ha.1
  by_cases hg : 70000 < n ∨ (300 < s.size ∧ s.size < 131072) ∨ 140000 < s.size
  · by_cases g1 : 70000 < n
    · go_enter Try.func5, Try.ntmps5
      go_wp2_with (go_at_call 8; refine (alive_any _).mono ?_; rintro e w' ⟨rfl, hbel⟩; have HB := Lib.hid hbel; clear hbel)
      go_ret
      exact ⟨rfl, HB.out⟩
    · by_cases g2 : 140000 < s.size
      · go_enter Try.func5, Try.ntmps5
        go_wp2_with (go_at_call 8; refine (alive_any _).mono ?_; rintro e w' ⟨rfl, hbel⟩; have HB := Lib.hid hbel; clear hbel)
        go_ret
        exact ⟨rfl, HB.out⟩
      · have g3 : 300 < s.size := by omega
        have g4 : s.size < 131072 := by omega
        clear hg
        go_enter Try.func5, Try.ntmps5
        go_wp2_with (go_at_call 8; refine (alive_any _).mono ?_; rintro e w' ⟨rfl, hbel⟩; have HB := Lib.hid hbel; clear hbel)
        go_ret
        exact ⟨rfl, HB.out⟩
  · have g1 : n ≤ 70000 := by omega
    have g2 : s.size ≤ 140000 := by omega
    have hk : ∀ W, Below w.heap.size w W → Byt W w.heap.size A n l := fun W h => ha.below h
    have HK := Lib.hid hk
    clear hk ha
    by_cases g6 : n ≤ 300
    · have g5 : n ≤ 65535 := by omega
      by_cases g3 : s.size ≤ 300
      all_goals
        have g4 : s.size ≤ 300 ∨ 131072 ≤ s.size := by omega
        clear hg
        go_enter Try.func5, Try.ntmps5
        go_wp2_with (go_at_call 20; first | (refine (may_yes _ _ _ _ g5).mono ?_; rintro e w' ⟨rfl, rfl⟩) | (refine (may_no _ _ _ _ (by omega) (by omega)).mono ?_; rintro e w' ⟨rfl, rfl⟩))
        (with_reducible refine (parse_any _ _ hs').mono ?_)
        rintro e w1 ⟨A1, n1, c1, rfl, y1, h1⟩
        have B1 := Lib.hid h1
        have Y1 := Lib.hid y1
        clear h1 y1
        go_wp2_with fail
        (with_reducible refine (rparse_any _ _ hs').mono ?_)
        rintro e w2 ⟨A2, n2, c2, rfl, y2, h2⟩
        have B2 := Lib.hid (B1.out.trans (h2.mono B1.out.size))
        have Y2 := Lib.hid y2
        have Y1' := Lib.hid ((Y1.out.below h2).more h2.size)
        clear h2 y2
        go_wp2_with fail
        (with_reducible refine (rsame_any _ _ _ _ _ _ w2.heap.size (parseR s.data.toList).1 (parseR s.data.toList).1 _ Y1'.out Y2.out).mono ?_)
        rintro e w3 ⟨rfl, h3⟩
        rw [show sameB (parseR s.data.toList).1 (parseR s.data.toList).1 = true from by simp [sameB]]
        have B3 := Lib.hid (B2.out.trans (h3.below _))
        clear h3
        go_wp2_with fail
        (with_reducible refine (far_one _ _ _ w3 _ _).mono ?_)
        rintro e w4 ⟨rfl, hw4⟩
        have B4 := Lib.hid (show Below w.heap.size w w4 from by rw [← hw4]; exact B3.out.alloc B3.out.size _)
        clear hw4
        rw [show farB [(A, n, c)] = false from by simp [farB]; omega]
        go_wp2_with fail
        (with_reducible refine (text_any _ _ _ w.heap.size l _ (HK.out _ B4.out) B4.out.size (by omega)).mono ?_)
        rintro e w5 ⟨rfl, h5⟩
        have B5 := Lib.hid (B4.out.trans (h5.mono B4.out.size))
        clear h5
        go_wp2_with fail
        have hps : (bstr (textL l)).size ≤ 9223372036854775807 := by
          have h := HN.out
          show (textL l).toArray.size ≤ _
          rw [List.size_toArray, textL_length]; omega
        (with_reducible refine (parse_any _ _ hps).mono ?_)
        rintro e w6 ⟨A6, n6, c6, rfl, y6, h6⟩
        rw [parse_of_text HN.out g6] at y6 ⊢
        simp only at y6 ⊢
        have B6 := Lib.hid (B5.out.trans (h6.mono B5.out.size))
        have Y6 := Lib.hid y6
        have z6 : w.heap.size ≤ w6.heap.size := B6.out.size
        clear h6 y6 hps
        go_wp2_with fail
        (with_reducible refine (text_any _ _ _ w.heap.size l _ (HK.out _ B6.out) B6.out.size (by omega)).mono ?_)
        rintro e w7 ⟨rfl, h7⟩
        have B7 := Lib.hid (B6.out.trans (h7.mono B6.out.size))
        have Y7 := Lib.hid (Y6.out.below h7)
        clear h7
        go_wp2_with fail
        (with_reducible refine (rtext_any _ _ _ w.heap.size l _ (HK.out _ B7.out) (by omega)).mono ?_)
        rintro e w8 ⟨rfl, h8⟩
        have B8 := Lib.hid (B7.out.trans (h8.below _))
        have Y8 := Lib.hid (Y7.out.below (h8.below _))
        clear h8
        go_wp2_with fail
        (with_reducible refine (rsame_any _ _ _ _ _ _ w6.heap.size l l _ Y8.out ((HK.out _ B8.out).more z6)).mono ?_)
        rintro e w9 ⟨rfl, h9⟩
        rw [show sameB l l = true from by simp [sameB]]
        have B9 := Lib.hid (B8.out.trans (h9.below _))
        clear h9
        go_wp2_with fail
        (with_reducible refine (alive_any _).mono ?_)
        rintro e w10 ⟨rfl, h10⟩
        have B10 := Lib.hid (B9.out.trans (h10.mono B9.out.size))
        clear h10
        go_wp2
        go_ret
        exact ⟨rfl, B10.out⟩
    · by_cases g3 : s.size ≤ 300
      all_goals
        have g4 : s.size ≤ 300 ∨ 131072 ≤ s.size := by omega
        clear hg
      all_goals
        by_cases g5 : n ≤ 65535
      all_goals
        go_enter Try.func5, Try.ntmps5
        go_wp2_with (go_at_call 20; first | (refine (may_yes _ _ _ _ g5).mono ?_; rintro e w' ⟨rfl, rfl⟩) | (refine (may_no _ _ _ _ (by omega) (by omega)).mono ?_; rintro e w' ⟨rfl, rfl⟩))
        (with_reducible refine (parse_any _ _ hs').mono ?_)
        rintro e w1 ⟨A1, n1, c1, rfl, y1, h1⟩
        have B1 := Lib.hid h1
        have Y1 := Lib.hid y1
        clear h1 y1
        go_wp2_with fail
        (with_reducible refine (rparse_any _ _ hs').mono ?_)
        rintro e w2 ⟨A2, n2, c2, rfl, y2, h2⟩
        have B2 := Lib.hid (B1.out.trans (h2.mono B1.out.size))
        have Y2 := Lib.hid y2
        have Y1' := Lib.hid ((Y1.out.below h2).more h2.size)
        clear h2 y2
        go_wp2_with fail
        (with_reducible refine (rsame_any _ _ _ _ _ _ w2.heap.size (parseR s.data.toList).1 (parseR s.data.toList).1 _ Y1'.out Y2.out).mono ?_)
        rintro e w3 ⟨rfl, h3⟩
        rw [show sameB (parseR s.data.toList).1 (parseR s.data.toList).1 = true from by simp [sameB]]
        have B3 := Lib.hid (B2.out.trans (h3.below _))
        clear h3
        go_wp2_with fail
        (with_reducible refine (far_one _ _ _ w3 _ _).mono ?_)
        rintro e w4 ⟨rfl, hw4⟩
        have B4 := Lib.hid (show Below w.heap.size w w4 from by rw [← hw4]; exact B3.out.alloc B3.out.size _)
        clear hw4
        rw [show farB [(A, n, c)] = true from by simp [farB]; omega]
        go_wp2_with fail
        (with_reducible refine (alive_any _).mono ?_)
        rintro e w10 ⟨rfl, h10⟩
        have B10 := Lib.hid (B4.out.trans (h10.mono B4.out.size))
        clear h10
        go_wp2
        go_ret
        exact ⟨rfl, B10.out⟩

set_option maxRecDepth 100000 in
theorem lifted (os : Os) (started : os.Started) (H : Type) (enc : TypeId × Value → H) :
    ReturnsInHanded {} Try.checked os 5 .any (Rows.keysTextsSpec.pre6 enc Try.prog Try.f5 Rows.keysTextsRow.domain false) (Rows.keysTextsSpec.post enc Try.prog Try.f5 false true false false) := by
  refine returnsInHanded_of_change (C := Try.checked) own started (by kernel_rfl) Try.func5
    (ChangeSpec.witness6 (enc := enc) (C := Try.checked) false ⟨#[], #[.slice none 0 0, .string .empty], []⟩ 8 (by kernel_rfl) (by kernel_rfl) (by kernel_rfl) (by kernel_rfl)) ?_
  intro W base args ds gs before hval0 hW hcnd _
  have hval : ∀ (j : Nat) t v, Try.f5.params[j]? = some t → args[j]? = some v → Value.okWide Try.prog W .any base t v := hval0
  have hW' := hW
  obtain ⟨p, q, hA0, hV, rfl, hfz, hnd⟩ := hW
  have hA : DataW.TrodAll enc Try.prog W 0 (fun _ => true) true Try.f5.params.toList args.toList ds p := hA0
  rw [Try.params5] at hA hval
  obtain ⟨v0, vs0, d0, ds0, p0, q0, hargs, rfl, rfl, h0, r0⟩ := trodAll_cons hA
  obtain ⟨v1, vs1, d1, ds1, p1, q1, rfl, rfl, rfl, h1, r1⟩ := trodAll_cons r0
  obtain ⟨rfl, rfl, rfl⟩ := trodAll_nil r1
  obtain rfl : args = #[v0, v1] := by cases args; simp_all
  obtain ⟨rfl, rfl⟩ := trodVars_none hV
  have k0 := h0
  have lt0 : ∀ x ∈ p0, x.block < W.heap.size := by obtain ⟨m, hm⟩ := k0; exact DataW.trod_lt m _ _ _ hm
  have k1 := h1
  have lt1 : ∀ x ∈ p1, x.block < W.heap.size := by obtain ⟨m, hm⟩ := k1; exact DataW.trod_lt m _ _ _ hm
  obtain ⟨A0, n0, c0, l0, rfl, b0, nc0⟩ := open_byt (hval 0 22 v0 rfl rfl) h0
  obtain ⟨s1, rfl, _, _, hs1⟩ := open_string Try.underlying9 (hval 1 9 v1 rfl rfl) h1
  clear hA0 hval0
  refine (walk A0 n0 c0 l0 s1 W b0 nc0 hs1).mono fun e W' ⟨he, bel⟩ => ?_
  subst he
  exact ⟨_, rfl, _, _, _, [], _, [], hW', trodAll_mk1 (shut_bool Try.underlying4 _), (trodAll_cons_mk (Below.trod laidOut (by kernel_rfl) (of_decide_eq_true (by kernel_rfl)) k0 bel lt0) (trodAll_cons_mk (Below.trod laidOut (by kernel_rfl) (of_decide_eq_true (by kernel_rfl)) k1 bel lt1) trodAll_mk0)), rfl, bel.frame _, fun h => by cases h⟩

theorem proved : Rows.KeysTextsSaid :=
  OpenClaim.holds_of_wide 5 Try.f5 rfl rfl rfl rfl rfl rfl rfl ⟨rfl, rfl, rfl, rfl, rfl⟩ rfl rfl rfl rfl rfl (by kernel_rfl) Try.func5 (by kernel_rfl)
    (of_decide_eq_true (by kernel_rfl)) (by unfold Func.isWrapper; first | (rw [if_pos (by decide +kernel)]; kernel_rfl) | (rw [if_neg (by decide +kernel)]; exact ⟨rfl, rfl⟩))
    (fun os started H enc _ => lifted os started H enc)
#print axioms proved
end Go.Proofs.Ytdllgcaeenldaaa.keysTexts
