/-
  Package wide: Next and Prev, of a board and of nobody's.
-/
import Derived.Test.YtgelmhldicmmdaaGreatBdRead
import Derived.Test.YtgelmhldicmmdaaGreatSmRead
namespace Go.Proofs.YtgelmhldicmmdaaGreat
open Go.RowKit

/-- What Get tells is what es holds. -/
def GetIs (p : Value) (es : List Ent) (w : World) : Prop := ∀ (c : Nat), c < 256 → Calls Tryz.prog 116 #[p, .int .u8 (c : Int)] w fun e w' => e = .returned (.tuple #[ev (getE es c), .bool (hasE es c)]) ∧ Still w w'
theorem GetIs.of {w : World} {g room u : Nat} {es : List Ent} {v : Value} (h : Bd w g v room es u) : GetIs (.pointer (some ⟨g, 0, none⟩)) es w := fun c hc => by
  have e : (UInt8.ofNat c).toNat = c := by rw [UInt8.toNat_ofNat']; omega
  have := wget_any h (UInt8.ofNat c)
  rwa [e] at this
theorem GetIs.nil (w : World) : GetIs (.pointer none) [] w := fun c _ => (wget_nil w (c : Int)).mono fun _ _ ⟨h1, h2⟩ => ⟨h1, by rw [h2]; exact Still.refl _⟩

section
variable {w : World} {p : Value} {es : List Ent}
set_option maxRecDepth 100000 in
theorem wnext_of (h : Up es) (G : ∀ n, GetIs p es (w.drewN n)) (a : Int) (ha : -9223372036854775808 ≤ a) : Calls Tryz.prog 118 #[p, .int .i64 a] w fun e w' => e = .returned (entV (nextE es a)) ∧ Still w w' := by
  have HC := Lib.hid G
  have HU := Lib.hid h
  have H0 := Lib.hid (show ∃ c : Nat, max a 0 = (c : Int) ∧ ((256 ≤ c ∧ nextE es a = none) ∨ (c < 256 ∧ nx es c = nextE es a)) by
    refine ⟨a.toNat, by omega, ?_⟩
    rw [next_nx]
    by_cases q : 255 < a
    · left; exact ⟨by omega, by rw [if_pos q]⟩
    · right; exact ⟨by omega, by rw [if_neg q]⟩)
  clear G h
  generalize nextE es a = ne at H0 ⊢
  by_cases hz : a ≤ 0
  all_goals
    go_enter Tryz.func118, Tryz.ntmps118
    go_wp2_with fail
  all_goals
    go_loopw [7] (fun s7 wr => ∃ c : Nat, s7 = .int .i64 c ∧ Hid ((256 ≤ c ∧ ne = none) ∨ (c < 256 ∧ nx es c = ne)) ∧ Still w wr) (fun s7 _ => 256 - (intOf s7).toNat)
    case atStart =>
      obtain ⟨c, hc, hn⟩ := H0.out
      exact ⟨c, by congr 1; omega, hn, Still.refl _⟩
    case round =>
      obtain ⟨c, rfl, HN, q, rfl⟩ := hrel
      by_cases h1 : c < 256
      · have hc1 := Lib.hid (HC.out q c h1)
        have hn : nx es c = ne := by rcases HN.out with q | q; omega; exact q.2
        have ew : IntKind.u8.wrap (c : Int) = (c : Int) := by rw [IntKind.wrap_u8]; omega
        have h2 : (c : Int) ≤ 255 := by omega
        cases hh : hasE es c with
        | true =>
          rw [hh] at hc1
          have E := Lib.hid (nx_yes hh)
          rw [hn] at E
          clear hh hn
          go_wp2_with fail
          (with_reducible refine hc1.out.mono ?_)
          rintro e w' ⟨rfl, hs⟩
          have HS := Lib.hid hs
          clear hs
          go_wp2
          go_ret3
          obtain ⟨e, he, h1, h2⟩ := E.out
          refine ⟨?_, ((Still.refl _).step _).trans HS.out⟩
          subst he
          show _ = Ending.returned (.tuple #[.int .u8 ((e.1.toNat : Nat) : Int), .pointer e.2, .bool true])
          rw [h1, h2]
          rfl
        | false =>
          rw [hh] at hc1
          have E := Lib.hid (nx_not HU.out hh)
          have HNn := Lib.hid hn
          clear hh hn
          go_wp2_with fail
          (with_reducible refine hc1.out.mono ?_)
          rintro e w' ⟨rfl, hs⟩
          have HS := Lib.hid hs
          clear hs
          have ew2 : IntKind.i64.wrap ((c : Int) + 1) = (c : Int) + 1 := by rw [IntKind.wrap_i64]; omega
          go_wp2
          refine ⟨⟨c + 1, by go_num, ?_, ((Still.refl _).step _).trans HS.out⟩, by simp [intOf]; omega⟩
          by_cases q2 : c + 1 = 256
          · refine Lib.hid (.inl ⟨by omega, ?_⟩)
            rw [← HNn.out, ← E.out, q2]; exact nx_all es
          · exact Lib.hid (.inr ⟨by omega, by rw [E.out, HNn.out]⟩)
      · have hn : ne = none := by rcases HN.out with q | q; exact q.2; omega
        subst hn
        have h2 : ¬ ((c : Int) ≤ 255) := by omega
        go_wp2
        go_ret3
        exact ⟨rfl, ⟨_, rfl⟩⟩

set_option maxRecDepth 100000 in
theorem wprev_of (h : Up es) (G : ∀ n, GetIs p es (w.drewN n)) (a : Int) (ha : a ≤ 9223372036854775807) : Calls Tryz.prog 119 #[p, .int .i64 a] w fun e w' => e = .returned (entV (prevE es a)) ∧ Still w w' := by
  have HC := Lib.hid G
  have HU := Lib.hid h
  have H0 := Lib.hid (show (min a 255 < 0 ∧ prevE es a = none) ∨ (∃ c : Nat, min a 255 = (c : Int) ∧ c < 256 ∧ pv es (c + 1) = prevE es a) by
    rw [prev_pv h]
    by_cases q : a < 0
    · left; exact ⟨by omega, by rw [if_pos q]⟩
    · right; exact ⟨(min a 255).toNat, by omega, by omega, by rw [if_neg q]⟩)
  clear G h
  generalize prevE es a = ne at H0 ⊢
  by_cases hz : a ≤ 255
  all_goals
    go_enter Tryz.func119, Tryz.ntmps119
    go_wp2_with fail
  all_goals
    go_loopw [7] (fun s7 wr => ∃ z : Int, s7 = .int .i64 z ∧ Hid ((z < 0 ∧ ne = none) ∨ (∃ c : Nat, z = (c : Int) ∧ c < 256 ∧ pv es (c + 1) = ne)) ∧ Still w wr) (fun s7 _ => (intOf s7 + 1).toNat)
    case atStart =>
      rcases H0.out with ⟨h1, h2⟩ | ⟨c, h1, h2, h3⟩
      · exact ⟨_, rfl, Lib.hid (.inl ⟨by omega, h2⟩), Still.refl _⟩
      · exact ⟨_, rfl, Lib.hid (.inr ⟨c, by omega, h2, h3⟩), Still.refl _⟩
    case round =>
      obtain ⟨z, rfl, HN, q, rfl⟩ := hrel
      rcases HN.out with ⟨hz0, hn⟩ | ⟨c, rfl, h1, hn⟩
      · subst hn
        go_wp2
        go_ret3
        exact ⟨rfl, ⟨_, rfl⟩⟩
      · have hc1 := Lib.hid (HC.out q c h1)
        clear HN
        have ew : IntKind.u8.wrap (c : Int) = (c : Int) := by rw [IntKind.wrap_u8]; omega
        cases hh : hasE es c with
        | true =>
          rw [hh] at hc1
          have E := Lib.hid (pv_yes HU.out hh)
          rw [hn] at E
          clear hh hn
          go_wp2_with fail
          (with_reducible refine hc1.out.mono ?_)
          rintro e w' ⟨rfl, hs⟩
          have HS := Lib.hid hs
          clear hs
          go_wp2
          go_ret3
          obtain ⟨e, he, h1, h2⟩ := E.out
          refine ⟨?_, ((Still.refl _).step _).trans HS.out⟩
          subst he
          show _ = Ending.returned (.tuple #[.int .u8 ((e.1.toNat : Nat) : Int), .pointer e.2, .bool true])
          rw [h1, h2]
          rfl
        | false =>
          rw [hh] at hc1
          have E := Lib.hid (pv_not HU.out hh)
          have HNn := Lib.hid hn
          have ew2 : IntKind.i64.wrap ((c : Int) - 1) = (c : Int) - 1 := by rw [IntKind.wrap_i64]; omega
          clear hh hn
          go_wp2_with fail
          (with_reducible refine hc1.out.mono ?_)
          rintro e w' ⟨rfl, hs⟩
          have HS := Lib.hid hs
          clear hs
          go_wp2
          refine ⟨⟨(c : Int) - 1, rfl, ?_, ((Still.refl _).step _).trans HS.out⟩, by simp [intOf]⟩
          by_cases q2 : c = 0
          · subst q2
            refine Lib.hid (.inl ⟨by omega, ?_⟩)
            rw [← HNn.out, E.out]; exact pv_zero es
          · refine Lib.hid (.inr ⟨c - 1, by omega, by omega, ?_⟩)
            rw [← HNn.out, E.out, show c - 1 + 1 = c by omega]
end
section
variable {w : World} {g room u : Nat} {es : List Ent} {v : Value}
set_option maxRecDepth 100000 in
theorem wnext_any (h : Bd w g v room es u) (a : Int) (ha : -9223372036854775808 ≤ a) : Calls Tryz.prog 118 #[.pointer (some ⟨g, 0, none⟩), .int .i64 a] w fun e w' => e = .returned (entV (nextE es a)) ∧ Still w w' :=
  wnext_of h.up (fun n => GetIs.of (h.drewN n)) a ha
set_option maxRecDepth 100000 in
theorem wprev_any (h : Bd w g v room es u) (a : Int) (ha : a ≤ 9223372036854775807) : Calls Tryz.prog 119 #[.pointer (some ⟨g, 0, none⟩), .int .i64 a] w fun e w' => e = .returned (entV (prevE es a)) ∧ Still w w' :=
  wprev_of h.up (fun n => GetIs.of (h.drewN n)) a ha
set_option maxRecDepth 100000 in
theorem wnext_nil (w : World) (a : Int) (ha : -9223372036854775808 ≤ a) : Calls Tryz.prog 118 #[.pointer none, .int .i64 a] w fun e w' => e = .returned (entV none) ∧ Still w w' := by
  have := wnext_of (w := w) (p := .pointer none) Up.nil (fun n => GetIs.nil _) a ha
  rwa [show nextE [] a = none by simp [nextE]] at this
set_option maxRecDepth 100000 in
theorem wprev_nil (w : World) (a : Int) (ha : a ≤ 9223372036854775807) : Calls Tryz.prog 119 #[.pointer none, .int .i64 a] w fun e w' => e = .returned (entV none) ∧ Still w w' := by
  have := wprev_of (w := w) (p := .pointer none) Up.nil (fun n => GetIs.nil _) a ha
  rwa [show prevE [] a = none by simp [prevE]] at this
end
end Go.Proofs.YtgelmhldicmmdaaGreat
