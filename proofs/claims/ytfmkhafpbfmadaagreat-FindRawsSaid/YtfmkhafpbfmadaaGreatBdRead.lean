/-
  Package wide: what a board tells, and what nobody's tells.
  Package wide: Next and Prev, of a board and of nobody's.
-/
import Derived.Test.YtfmkhafpbfmadaaGreatChecked
import Derived.Test.YtfmkhafpbfmadaaGreatBdMem
import Derived.Test.YtfmkhafpbfmadaaGreatSmRead
namespace Go.Proofs.YtfmkhafpbfmadaaGreat
open Go.RowKit

section
variable (w : World)
set_option maxRecDepth 100000 in
theorem wlen_nil : Calls Tryz.prog 130 #[.pointer none] w fun e w' => e = .returned (.int .i64 0) ∧ w' = w := by
  go_enter Tryz.func130, Tryz.ntmps130
  go_wp2
  go_ret
  exact ⟨rfl, rfl⟩
set_option maxRecDepth 100000 in
theorem wroom_nil : Calls Tryz.prog 133 #[.pointer none] w fun e w' => e = .returned (.int .i64 0) ∧ w' = w := by
  go_enter Tryz.func133, Tryz.ntmps133
  go_wp2
  go_ret
  exact ⟨rfl, rfl⟩
set_option maxRecDepth 100000 in
theorem wnobodys_nil : Calls Tryz.prog 88 #[.pointer none] w fun e w' => e = .returned (.bool true) ∧ w' = w := by
  go_enter Tryz.func88, Tryz.ntmps88
  go_wp2
  go_ret
  exact ⟨rfl, rfl⟩
set_option maxRecDepth 100000 in
theorem wholds_nil (b : Int) : Calls Tryz.prog 135 #[.pointer none, .int .u8 b] w fun e w' => e = .returned (.bool false) ∧ w' = w := by
  go_enter Tryz.func135, Tryz.ntmps135
  go_wp2
  go_ret
  exact ⟨rfl, rfl⟩
set_option maxRecDepth 100000 in
theorem wget_nil (b : Int) : Calls Tryz.prog 129 #[.pointer none, .int .u8 b] w fun e w' => e = .returned (.tuple #[ev none, .bool false]) ∧ w' = w := by
  go_enter Tryz.func129, Tryz.ntmps129
  go_wp2_with (go_at_call 135; refine (wholds_nil _ _).mono ?_; rintro e w' ⟨rfl, rfl⟩)
  go_ret2
  exact ⟨rfl, rfl⟩
end

section
variable {w : World} {g room u : Nat} {es : List Ent} {v : Value}
set_option maxRecDepth 100000 in
theorem wlen_any (h : Bd w g v room es u) : Calls Tryz.prog 130 #[.pointer (some ⟨g, 0, none⟩)] w fun e w' => e = .returned (.int .i64 (es.length : Int)) ∧ Still w w' := by
  obtain ⟨A, c, rfl, h1⟩ := h.slice_
  obtain ⟨k, hk, h2⟩ := h.lefts_
  have hf := h.few
  have E := Lib.hid (show (u : Int) - (k : Int) = (es.length : Int) by omega)
  have ew : IntKind.i64.wrap ((u : Int) - (k : Int)) = (u : Int) - (k : Int) := by rw [IntKind.wrap_i64]; omega
  clear h hk hf
  go_enter Tryz.func130, Tryz.ntmps130
  go_wp2_with fail
  go_quiet (fail)
  go_wp2
  go_ret
  exact ⟨by rw [← E.out]; rfl, ⟨_, rfl⟩⟩
set_option maxRecDepth 100000 in
theorem wroom_any (h : Bd w g v room es u) : Calls Tryz.prog 133 #[.pointer (some ⟨g, 0, none⟩)] w fun e w' => e = .returned (.int .i64 (room : Int)) ∧ w' = w := by
  have h1 := h.room_
  clear h
  go_enter Tryz.func133, Tryz.ntmps133
  go_wp2
  go_ret
  exact ⟨rfl, rfl⟩
set_option maxRecDepth 100000 in
theorem wnobodys_any (h : Bd w g v room es u) : Calls Tryz.prog 88 #[.pointer (some ⟨g, 0, none⟩)] w fun e w' => e = .returned (.bool (decide (room = 0))) ∧ w' = w := by
  have h1 := h.room_
  clear h
  go_enter Tryz.func88, Tryz.ntmps88
  go_wp2
  go_ret
  exact ⟨by by_cases q : room = 0 <;> simp [q], rfl⟩
set_option maxRecDepth 100000 in
theorem wholds_any (h : Bd w g v room es u) (b : UInt8) : Calls Tryz.prog 135 #[.pointer (some ⟨g, 0, none⟩), .int .u8 (b.toNat : Int)] w fun e w' => e = .returned (.bool (hasE es b.toNat)) ∧ w' = w := by
  have hb := b.toNat_lt
  have hbi : (b.toNat : Int) < 256 := by omega
  cases hh : hasE es b.toNat with
  | false =>
    have h1 := h.table_no hb hh
    clear h hh
    go_enter Tryz.func135, Tryz.ntmps135
    go_wp2
    go_ret
    exact ⟨rfl, rfl⟩
  | true =>
    obtain ⟨t, c, q, ha⟩ := h.at_ hb hh
    have h1 := ha.tb_
    have hz : ((q : Int) + 1 = 0) = False := by rw [eq_iff_iff]; constructor <;> intro hq <;> first | omega | cases hq
    clear h hh ha
    go_enter Tryz.func135, Tryz.ntmps135
    go_wp2
    go_ret
    exact ⟨by first | rfl | simp [hz], rfl⟩
set_option maxRecDepth 100000 in
theorem wget_any (h : Bd w g v room es u) (b : UInt8) : Calls Tryz.prog 129 #[.pointer (some ⟨g, 0, none⟩), .int .u8 (b.toNat : Int)] w fun e w' => e = .returned (.tuple #[ev (getE es b.toNat), .bool (hasE es b.toNat)]) ∧ Still w w' := by
  have C := Lib.hid (wholds_any h b)
  have hb := b.toNat_lt
  have hbi : (b.toNat : Int) < 256 := by omega
  cases hh : hasE es b.toNat with
  | false =>
    rw [hh] at C
    have E := Lib.hid (get_no hh)
    clear h hh
    go_enter Tryz.func129, Tryz.ntmps129
    go_wp2_with fail
    (with_reducible refine C.out.mono ?_)
    rintro e w' ⟨rfl, rfl⟩
    go_wp2
    go_ret2
    exact ⟨by rw [E.out]; rfl, Still.refl _⟩
  | true =>
    rw [hh] at C
    obtain ⟨t, c, q, ha⟩ := h.at_ hb hh
    have h1 := ha.tb_
    have h2 := ha.sl_
    have h3 := ha.th_
    have h4 := ha.lt_
    have h5 := ha.few_
    have ew : IntKind.u16.wrap ((q : Int) + 1 - 1) = (q : Int) := by rw [show ((q : Int) + 1 - 1) = (q : Int) by omega, IntKind.wrap_u16]; omega
    have e2 : (q : Int) + 1 - 1 = (q : Int) := by omega
    have ew2 : IntKind.u16.wrap (q : Int) = (q : Int) := by rw [IntKind.wrap_u16]; omega
    generalize getE es b.toNat = x at h3
    clear h hh ha
    go_enter Tryz.func129, Tryz.ntmps129
    go_wp2_with fail
    (with_reducible refine C.out.mono ?_)
    rintro e w' ⟨rfl, rfl⟩
    go_wp2_with fail
    go_quiet (fail)
    go_wp2
    go_ret2
    exact ⟨rfl, ⟨_, rfl⟩⟩
end
end Go.Proofs.YtfmkhafpbfmadaaGreat

namespace Go.Proofs.YtfmkhafpbfmadaaGreat
open Go.RowKit

/-- What Get tells is what es holds. -/
def GetIs (p : Value) (es : List Ent) (w : World) : Prop := ∀ (c : Nat), c < 256 → Calls Tryz.prog 129 #[p, .int .u8 (c : Int)] w fun e w' => e = .returned (.tuple #[ev (getE es c), .bool (hasE es c)]) ∧ Still w w'
theorem GetIs.of {w : World} {g room u : Nat} {es : List Ent} {v : Value} (h : Bd w g v room es u) : GetIs (.pointer (some ⟨g, 0, none⟩)) es w := fun c hc => by
  have e : (UInt8.ofNat c).toNat = c := by rw [UInt8.toNat_ofNat']; omega
  have := wget_any h (UInt8.ofNat c)
  rwa [e] at this
theorem GetIs.nil (w : World) : GetIs (.pointer none) [] w := fun c _ => (wget_nil w (c : Int)).mono fun _ _ ⟨h1, h2⟩ => ⟨h1, by rw [h2]; exact Still.refl _⟩

section
variable {w : World} {p : Value} {es : List Ent}
set_option maxRecDepth 100000 in
theorem wnext_of (h : Up es) (G : ∀ n, GetIs p es (w.drewN n)) (a : Int) (ha : -9223372036854775808 ≤ a) : Calls Tryz.prog 131 #[p, .int .i64 a] w fun e w' => e = .returned (entV (nextE es a)) ∧ Still w w' := by
  have HC := Lib.hid G
  have HU := Lib.hid h
  have H0 := Lib.hid (show ∃ c : Nat, max a 0 = (c : Int) ∧ ((256 ≤ c ∧ nextE es a = none) ∨ (c < 256 ∧ nx es c = nextE es a)) by
    refine ⟨a.toNat, by omega, ?_⟩
    rw [next_nx]
    by_cases q : 255 < a
    · left; exact ⟨by omega, by rw [if_pos q]⟩
    · right; exact ⟨by omega, by rw [if_neg q]⟩)
  clear G h
  generalize nextE es a = ne at H0 ⊢
  by_cases hz : a ≤ 0
  all_goals
    go_enter Tryz.func131, Tryz.ntmps131
    go_wp2_with fail
  all_goals
    go_loopw [7] (fun s7 wr => ∃ c : Nat, s7 = .int .i64 c ∧ Hid ((256 ≤ c ∧ ne = none) ∨ (c < 256 ∧ nx es c = ne)) ∧ Still w wr) (fun s7 _ => 256 - (intOf s7).toNat)
    case atStart =>
      obtain ⟨c, hc, hn⟩ := H0.out
      exact ⟨c, by congr 1; omega, hn, Still.refl _⟩
    case round =>
      obtain ⟨c, rfl, HN, q, rfl⟩ := hrel
      by_cases h1 : c < 256
      · have hc1 := Lib.hid (HC.out q c h1)
        have hn : nx es c = ne := by rcases HN.out with q | q; omega; exact q.2
        have ew : IntKind.u8.wrap (c : Int) = (c : Int) := by rw [IntKind.wrap_u8]; omega
        have h2 : (c : Int) ≤ 255 := by omega
        cases hh : hasE es c with
        | true =>
          rw [hh] at hc1
          have E := Lib.hid (nx_yes hh)
          rw [hn] at E
          clear hh hn
          go_wp2_with fail
          (with_reducible refine hc1.out.mono ?_)
          rintro e w' ⟨rfl, hs⟩
          have HS := Lib.hid hs
          clear hs
          go_wp2
          go_ret3
          obtain ⟨e, he, h1, h2⟩ := E.out
          refine ⟨?_, ((Still.refl _).step _).trans HS.out⟩
          subst he
          show _ = Ending.returned (.tuple #[.int .u8 ((e.1.toNat : Nat) : Int), .pointer e.2, .bool true])
          rw [h1, h2]
          rfl
        | false =>
          rw [hh] at hc1
          have E := Lib.hid (nx_not HU.out hh)
          have HNn := Lib.hid hn
          clear hh hn
          go_wp2_with fail
          (with_reducible refine hc1.out.mono ?_)
          rintro e w' ⟨rfl, hs⟩
          have HS := Lib.hid hs
          clear hs
          have ew2 : IntKind.i64.wrap ((c : Int) + 1) = (c : Int) + 1 := by rw [IntKind.wrap_i64]; omega
          go_wp2
          refine ⟨⟨c + 1, by go_num, ?_, ((Still.refl _).step _).trans HS.out⟩, by simp [intOf]; omega⟩
          by_cases q2 : c + 1 = 256
          · refine Lib.hid (.inl ⟨by omega, ?_⟩)
            rw [← HNn.out, ← E.out, q2]; exact nx_all es
          · exact Lib.hid (.inr ⟨by omega, by rw [E.out, HNn.out]⟩)
      · have hn : ne = none := by rcases HN.out with q | q; exact q.2; omega
        subst hn
        have h2 : ¬ ((c : Int) ≤ 255) := by omega
        go_wp2
        go_ret3
        exact ⟨rfl, ⟨_, rfl⟩⟩

end
section
variable {w : World} {g room u : Nat} {es : List Ent} {v : Value}
set_option maxRecDepth 100000 in
theorem wnext_any (h : Bd w g v room es u) (a : Int) (ha : -9223372036854775808 ≤ a) : Calls Tryz.prog 131 #[.pointer (some ⟨g, 0, none⟩), .int .i64 a] w fun e w' => e = .returned (entV (nextE es a)) ∧ Still w w' :=
  wnext_of h.up (fun n => GetIs.of (h.drewN n)) a ha
set_option maxRecDepth 100000 in
theorem wnext_nil (w : World) (a : Int) (ha : -9223372036854775808 ≤ a) : Calls Tryz.prog 131 #[.pointer none, .int .i64 a] w fun e w' => e = .returned (entV none) ∧ Still w w' := by
  have := wnext_of (w := w) (p := .pointer none) Up.nil (fun n => GetIs.nil _) a ha
  rwa [show nextE [] a = none by simp [nextE]] at this
end
end Go.Proofs.YtfmkhafpbfmadaaGreat
