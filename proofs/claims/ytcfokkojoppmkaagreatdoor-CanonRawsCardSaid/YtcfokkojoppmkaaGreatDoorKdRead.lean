/-
  Package kids: what kids tell, and what nobody's tell.
-/
import Derived.Test.YtcfokkojoppmkaaGreatDoorKdMem
namespace Go.Proofs.YtcfokkojoppmkaaGreatDoor
open Go.RowKit

section
set_option maxRecDepth 100000 in
theorem m_row_Len (a : Option Addr) (w : World) : (method 307 155 (.pointer a) "Len").run Tryz.prog w = .ok (143, .pointer a) w := by kernel_rfl
set_option maxRecDepth 100000 in
theorem m_board_Len (a : Option Addr) (w : World) : (method 307 156 (.pointer a) "Len").run Tryz.prog w = .ok (161, .pointer a) w := by kernel_rfl
set_option maxRecDepth 100000 in
theorem m_row_Room (a : Option Addr) (w : World) : (method 307 155 (.pointer a) "Room").run Tryz.prog w = .ok (146, .pointer a) w := by kernel_rfl
set_option maxRecDepth 100000 in
theorem m_board_Room (a : Option Addr) (w : World) : (method 307 156 (.pointer a) "Room").run Tryz.prog w = .ok (164, .pointer a) w := by kernel_rfl
set_option maxRecDepth 100000 in
theorem m_board_Get (a : Option Addr) (w : World) : (method 307 156 (.pointer a) "Get").run Tryz.prog w = .ok (160, .pointer a) w := by kernel_rfl
set_option maxRecDepth 100000 in
theorem m_row_Set (a : Option Addr) (w : World) : (method 307 155 (.pointer a) "Set").run Tryz.prog w = .ok (147, .pointer a) w := by kernel_rfl
set_option maxRecDepth 100000 in
theorem m_board_Set (a : Option Addr) (w : World) : (method 307 156 (.pointer a) "Set").run Tryz.prog w = .ok (165, .pointer a) w := by kernel_rfl
set_option maxRecDepth 100000 in
theorem m_row_Next (a : Option Addr) (w : World) : (method 307 155 (.pointer a) "Next").run Tryz.prog w = .ok (144, .pointer a) w := by kernel_rfl
set_option maxRecDepth 100000 in
theorem m_board_Next (a : Option Addr) (w : World) : (method 307 156 (.pointer a) "Next").run Tryz.prog w = .ok (162, .pointer a) w := by kernel_rfl
end

section
variable {w : World} {g : Nat} {o : Ho} {room : Nat} {es : List Ent}
set_option maxRecDepth 100000 in
theorem kwhere_any (h : Kr w g o room es) : Calls Tryz.prog 91 #[.pointer (some ⟨g, 0, none⟩)] w fun e w' => e = .returned o.face ∧ w' = w := by
  cases o with
  | row r t =>
    have h0 : w.cell? ⟨g, 0, none⟩ = some (.pointer (some ⟨r, 0, none⟩)) := by rw [Lst.at_ h.two]; rfl
    have h1 : w.cell? ⟨g, 1, none⟩ = some (.pointer none) := by rw [Lst.at_ h.two]; rfl
    clear h
    go_enter Tryz.func91, Tryz.ntmps91
    go_wp2
    go_ret
    exact ⟨rfl, rfl⟩
  | board r v =>
    have h1 : w.cell? ⟨g, 1, none⟩ = some (.pointer (some ⟨r, 0, none⟩)) := by rw [Lst.at_ h.two]; rfl
    clear h
    go_enter Tryz.func91, Tryz.ntmps91
    go_wp2
    go_ret
    exact ⟨rfl, rfl⟩
set_option maxRecDepth 100000 in
theorem klen_row {r t : Nat} (h : Kr w g (Ho.row r t) room es) : Calls Tryz.prog 93 #[.pointer (some ⟨g, 0, none⟩)] w fun e w' => e = .returned (.int .i64 (es.length : Int)) ∧ Still w w' := by
  have C := Lib.hid (kwhere_any h)
  have M := Lib.hid (show Calls Tryz.prog 143 #[.pointer (some ⟨r, 0, none⟩)] w fun e w' => e = .returned (.int .i64 (es.length : Int)) ∧ Still w w' from (len_any (Sm.rd h.is)).mono fun _ _ ⟨q1, q2⟩ => ⟨q1, q2 ▸ Still.refl _⟩)
  have F := m_row_Len (some ⟨r, 0, none⟩)
  clear h
  go_enter Tryz.func93, Tryz.ntmps93
  go_wp2_with fail
  (with_reducible refine C.out.mono ?_)
  rintro e w1 ⟨rfl, rfl⟩
  simp only [Ho.face]
  go_wp2_with fail
  (with_reducible refine M.out.mono ?_)
  rintro e w2 ⟨rfl, ⟨n, rfl⟩⟩
  go_wp2
  go_ret
  exact ⟨rfl, ⟨_, rfl⟩⟩
set_option maxRecDepth 100000 in
theorem klen_board {r : Nat} {v : Value} (h : Kr w g (Ho.board r v) room es) : Calls Tryz.prog 93 #[.pointer (some ⟨g, 0, none⟩)] w fun e w' => e = .returned (.int .i64 (es.length : Int)) ∧ Still w w' := by
  have C := Lib.hid (kwhere_any h)
  have M := Lib.hid (show Calls Tryz.prog 161 #[.pointer (some ⟨r, 0, none⟩)] w fun e w' => e = .returned (.int .i64 (es.length : Int)) ∧ Still w w' from h.is.2.elim fun _ q => wlen_any q)
  have F := m_board_Len (some ⟨r, 0, none⟩)
  clear h
  go_enter Tryz.func93, Tryz.ntmps93
  go_wp2_with fail
  (with_reducible refine C.out.mono ?_)
  rintro e w1 ⟨rfl, rfl⟩
  simp only [Ho.face]
  go_wp2_with fail
  (with_reducible refine M.out.mono ?_)
  rintro e w2 ⟨rfl, ⟨n, rfl⟩⟩
  go_wp2
  go_ret
  exact ⟨rfl, ⟨_, rfl⟩⟩
set_option maxRecDepth 100000 in
theorem klen_any (h : Kr w g o room es) : Calls Tryz.prog 93 #[.pointer (some ⟨g, 0, none⟩)] w fun e w' => e = .returned (.int .i64 (es.length : Int)) ∧ Still w w' := by
  cases o with
  | row r t => exact klen_row h
  | board r v => exact klen_board h
set_option maxRecDepth 100000 in
theorem kkind_row {r t : Nat} (h : Kr w g (Ho.row r t) room es) : Calls Tryz.prog 75 #[.pointer (some ⟨g, 0, none⟩)] w fun e w' => e = .returned (.int .i64 (room : Int)) ∧ Still w w' := by
  have C := Lib.hid (kwhere_any h)
  have M := Lib.hid (show Calls Tryz.prog 146 #[.pointer (some ⟨r, 0, none⟩)] w fun e w' => e = .returned (.int .i64 (room : Int)) ∧ Still w w' from (room_any (Sm.rd h.is)).mono fun _ _ ⟨q1, q2⟩ => ⟨q1, q2 ▸ Still.refl _⟩)
  have F := m_row_Room (some ⟨r, 0, none⟩)
  clear h
  go_enter Tryz.func75, Tryz.ntmps75
  go_wp2_with fail
  (with_reducible refine C.out.mono ?_)
  rintro e w1 ⟨rfl, rfl⟩
  simp only [Ho.face]
  go_wp2_with fail
  (with_reducible refine M.out.mono ?_)
  rintro e w2 ⟨rfl, ⟨n, rfl⟩⟩
  go_wp2
  go_ret
  exact ⟨rfl, ⟨_, rfl⟩⟩
set_option maxRecDepth 100000 in
theorem kkind_board {r : Nat} {v : Value} (h : Kr w g (Ho.board r v) room es) : Calls Tryz.prog 75 #[.pointer (some ⟨g, 0, none⟩)] w fun e w' => e = .returned (.int .i64 (room : Int)) ∧ Still w w' := by
  have C := Lib.hid (kwhere_any h)
  have M := Lib.hid (show Calls Tryz.prog 164 #[.pointer (some ⟨r, 0, none⟩)] w fun e w' => e = .returned (.int .i64 (room : Int)) ∧ Still w w' from h.is.2.elim fun _ q => (wroom_any q).mono fun _ _ ⟨q1, q2⟩ => ⟨q1, q2 ▸ Still.refl _⟩)
  have F := m_board_Room (some ⟨r, 0, none⟩)
  clear h
  go_enter Tryz.func75, Tryz.ntmps75
  go_wp2_with fail
  (with_reducible refine C.out.mono ?_)
  rintro e w1 ⟨rfl, rfl⟩
  simp only [Ho.face]
  go_wp2_with fail
  (with_reducible refine M.out.mono ?_)
  rintro e w2 ⟨rfl, ⟨n, rfl⟩⟩
  go_wp2
  go_ret
  exact ⟨rfl, ⟨_, rfl⟩⟩
set_option maxRecDepth 100000 in
theorem kkind_any (h : Kr w g o room es) : Calls Tryz.prog 75 #[.pointer (some ⟨g, 0, none⟩)] w fun e w' => e = .returned (.int .i64 (room : Int)) ∧ Still w w' := by
  cases o with
  | row r t => exact kkind_row h
  | board r v => exact kkind_board h
set_option maxRecDepth 100000 in
theorem knext_row {r t : Nat} (h : Kr w g (Ho.row r t) room es) (a : Int) (ha : -9223372036854775808 ≤ a) : Calls Tryz.prog 80 #[.pointer (some ⟨g, 0, none⟩), .int .i64 a] w fun e w' => e = .returned (entV (nextE es a)) ∧ Still w w' := by
  have C := Lib.hid (kwhere_any h)
  have M := Lib.hid (show Calls Tryz.prog 144 #[.pointer (some ⟨r, 0, none⟩), .int .i64 a] w fun e w' => e = .returned (entV (nextE es a)) ∧ Still w w' from snext_any (Sm.rd h.is) a ha)
  obtain ⟨s, hs⟩ : ∃ s, s = (nextE es a) := ⟨_, rfl⟩
  rw [← hs] at M ⊢
  clear hs
  have F := m_row_Next (some ⟨r, 0, none⟩)
  clear h
  go_enter Tryz.func80, Tryz.ntmps80
  go_wp2_with fail
  (with_reducible refine C.out.mono ?_)
  rintro e w1 ⟨rfl, rfl⟩
  simp only [Ho.face]
  go_wp2_with fail
  (with_reducible refine M.out.mono ?_)
  rintro e w2 ⟨rfl, ⟨n, rfl⟩⟩
  simp only [entV]
  go_wp2
  go_ret3
  exact ⟨rfl, ⟨_, rfl⟩⟩
set_option maxRecDepth 100000 in
theorem knext_board {r : Nat} {v : Value} (h : Kr w g (Ho.board r v) room es) (a : Int) (ha : -9223372036854775808 ≤ a) : Calls Tryz.prog 80 #[.pointer (some ⟨g, 0, none⟩), .int .i64 a] w fun e w' => e = .returned (entV (nextE es a)) ∧ Still w w' := by
  have C := Lib.hid (kwhere_any h)
  have M := Lib.hid (show Calls Tryz.prog 162 #[.pointer (some ⟨r, 0, none⟩), .int .i64 a] w fun e w' => e = .returned (entV (nextE es a)) ∧ Still w w' from h.is.2.elim fun _ q => wnext_any q a ha)
  obtain ⟨s, hs⟩ : ∃ s, s = (nextE es a) := ⟨_, rfl⟩
  rw [← hs] at M ⊢
  clear hs
  have F := m_board_Next (some ⟨r, 0, none⟩)
  clear h
  go_enter Tryz.func80, Tryz.ntmps80
  go_wp2_with fail
  (with_reducible refine C.out.mono ?_)
  rintro e w1 ⟨rfl, rfl⟩
  simp only [Ho.face]
  go_wp2_with fail
  (with_reducible refine M.out.mono ?_)
  rintro e w2 ⟨rfl, ⟨n, rfl⟩⟩
  simp only [entV]
  go_wp2
  go_ret3
  exact ⟨rfl, ⟨_, rfl⟩⟩
set_option maxRecDepth 100000 in
theorem knext_any (h : Kr w g o room es) (a : Int) (ha : -9223372036854775808 ≤ a) : Calls Tryz.prog 80 #[.pointer (some ⟨g, 0, none⟩), .int .i64 a] w fun e w' => e = .returned (entV (nextE es a)) ∧ Still w w' := by
  cases o with
  | row r t => exact knext_row h a ha
  | board r v => exact knext_board h a ha
end
end Go.Proofs.YtcfokkojoppmkaaGreatDoor
