/-
  Package wide: what a board tells, and what nobody's tells.
-/
import Derived.Test.YtgelmhldicmmdaaGreatChecked
import Derived.Test.YtgelmhldicmmdaaGreatBdMem
namespace Go.Proofs.YtgelmhldicmmdaaGreat
open Go.RowKit

section
variable (w : World)
set_option maxRecDepth 100000 in
theorem wlen_nil : Calls Tryz.prog 117 #[.pointer none] w fun e w' => e = .returned (.int .i64 0) ∧ w' = w := by
  go_enter Tryz.func117, Tryz.ntmps117
  go_wp2
  go_ret
  exact ⟨rfl, rfl⟩
set_option maxRecDepth 100000 in
theorem wroom_nil : Calls Tryz.prog 120 #[.pointer none] w fun e w' => e = .returned (.int .i64 0) ∧ w' = w := by
  go_enter Tryz.func120, Tryz.ntmps120
  go_wp2
  go_ret
  exact ⟨rfl, rfl⟩
set_option maxRecDepth 100000 in
theorem wnobodys_nil : Calls Tryz.prog 77 #[.pointer none] w fun e w' => e = .returned (.bool true) ∧ w' = w := by
  go_enter Tryz.func77, Tryz.ntmps77
  go_wp2
  go_ret
  exact ⟨rfl, rfl⟩
set_option maxRecDepth 100000 in
theorem wholds_nil (b : Int) : Calls Tryz.prog 122 #[.pointer none, .int .u8 b] w fun e w' => e = .returned (.bool false) ∧ w' = w := by
  go_enter Tryz.func122, Tryz.ntmps122
  go_wp2
  go_ret
  exact ⟨rfl, rfl⟩
set_option maxRecDepth 100000 in
theorem wget_nil (b : Int) : Calls Tryz.prog 116 #[.pointer none, .int .u8 b] w fun e w' => e = .returned (.tuple #[ev none, .bool false]) ∧ w' = w := by
  go_enter Tryz.func116, Tryz.ntmps116
  go_wp2_with (go_at_call 122; refine (wholds_nil _ _).mono ?_; rintro e w' ⟨rfl, rfl⟩)
  go_ret2
  exact ⟨rfl, rfl⟩
end

section
variable {w : World} {g room u : Nat} {es : List Ent} {v : Value}
set_option maxRecDepth 100000 in
theorem wlen_any (h : Bd w g v room es u) : Calls Tryz.prog 117 #[.pointer (some ⟨g, 0, none⟩)] w fun e w' => e = .returned (.int .i64 (es.length : Int)) ∧ Still w w' := by
  obtain ⟨A, c, rfl, h1⟩ := h.slice_
  obtain ⟨k, hk, h2⟩ := h.lefts_
  have hf := h.few
  have E := Lib.hid (show (u : Int) - (k : Int) = (es.length : Int) by omega)
  have ew : IntKind.i64.wrap ((u : Int) - (k : Int)) = (u : Int) - (k : Int) := by rw [IntKind.wrap_i64]; omega
  clear h hk hf
  go_enter Tryz.func117, Tryz.ntmps117
  go_wp2_with fail
  go_quiet (fail)
  go_wp2
  go_ret
  exact ⟨by rw [← E.out]; rfl, ⟨_, rfl⟩⟩
set_option maxRecDepth 100000 in
theorem wroom_any (h : Bd w g v room es u) : Calls Tryz.prog 120 #[.pointer (some ⟨g, 0, none⟩)] w fun e w' => e = .returned (.int .i64 (room : Int)) ∧ w' = w := by
  have h1 := h.room_
  clear h
  go_enter Tryz.func120, Tryz.ntmps120
  go_wp2
  go_ret
  exact ⟨rfl, rfl⟩
set_option maxRecDepth 100000 in
theorem wnobodys_any (h : Bd w g v room es u) : Calls Tryz.prog 77 #[.pointer (some ⟨g, 0, none⟩)] w fun e w' => e = .returned (.bool (decide (room = 0))) ∧ w' = w := by
  have h1 := h.room_
  clear h
  go_enter Tryz.func77, Tryz.ntmps77
  go_wp2
  go_ret
  exact ⟨by by_cases q : room = 0 <;> simp [q], rfl⟩
set_option maxRecDepth 100000 in
theorem wholds_any (h : Bd w g v room es u) (b : UInt8) : Calls Tryz.prog 122 #[.pointer (some ⟨g, 0, none⟩), .int .u8 (b.toNat : Int)] w fun e w' => e = .returned (.bool (hasE es b.toNat)) ∧ w' = w := by
  have hb := b.toNat_lt
  have hbi : (b.toNat : Int) < 256 := by omega
  cases hh : hasE es b.toNat with
  | false =>
    have h1 := h.table_no hb hh
    clear h hh
    go_enter Tryz.func122, Tryz.ntmps122
    go_wp2
    go_ret
    exact ⟨rfl, rfl⟩
  | true =>
    obtain ⟨t, c, q, ha⟩ := h.at_ hb hh
    have h1 := ha.tb_
    have hz : ((q : Int) + 1 = 0) = False := by rw [eq_iff_iff]; constructor <;> intro hq <;> first | omega | cases hq
    clear h hh ha
    go_enter Tryz.func122, Tryz.ntmps122
    go_wp2
    go_ret
    exact ⟨by first | rfl | simp [hz], rfl⟩
set_option maxRecDepth 100000 in
theorem wget_any (h : Bd w g v room es u) (b : UInt8) : Calls Tryz.prog 116 #[.pointer (some ⟨g, 0, none⟩), .int .u8 (b.toNat : Int)] w fun e w' => e = .returned (.tuple #[ev (getE es b.toNat), .bool (hasE es b.toNat)]) ∧ Still w w' := by
  have C := Lib.hid (wholds_any h b)
  have hb := b.toNat_lt
  have hbi : (b.toNat : Int) < 256 := by omega
  cases hh : hasE es b.toNat with
  | false =>
    rw [hh] at C
    have E := Lib.hid (get_no hh)
    clear h hh
    go_enter Tryz.func116, Tryz.ntmps116
    go_wp2_with fail
    (with_reducible refine C.out.mono ?_)
    rintro e w' ⟨rfl, rfl⟩
    go_wp2
    go_ret2
    exact ⟨by rw [E.out]; rfl, Still.refl _⟩
  | true =>
    rw [hh] at C
    obtain ⟨t, c, q, ha⟩ := h.at_ hb hh
    have h1 := ha.tb_
    have h2 := ha.sl_
    have h3 := ha.th_
    have h4 := ha.lt_
    have h5 := ha.few_
    have ew : IntKind.u16.wrap ((q : Int) + 1 - 1) = (q : Int) := by rw [show ((q : Int) + 1 - 1) = (q : Int) by omega, IntKind.wrap_u16]; omega
    have e2 : (q : Int) + 1 - 1 = (q : Int) := by omega
    have ew2 : IntKind.u16.wrap (q : Int) = (q : Int) := by rw [IntKind.wrap_u16]; omega
    generalize getE es b.toNat = x at h3
    clear h hh ha
    go_enter Tryz.func116, Tryz.ntmps116
    go_wp2_with fail
    (with_reducible refine C.out.mono ?_)
    rintro e w' ⟨rfl, rfl⟩
    go_wp2_with fail
    go_quiet (fail)
    go_wp2
    go_ret2
    exact ⟨rfl, ⟨_, rfl⟩⟩
end
end Go.Proofs.YtgelmhldicmmdaaGreat
