/-
  Package kids: what kids tell, and what nobody's tell.
-/
import Derived.Test.YtgelmhldicmmdaaGreatKdMem
namespace Go.Proofs.YtgelmhldicmmdaaGreat
open Go.RowKit

section
set_option maxRecDepth 100000 in
theorem m_row_Len (a : Option Addr) (w : World) : (method 255 105 (.pointer a) "Len").run Tryz.prog w = .ok (98, .pointer a) w := by kernel_rfl
set_option maxRecDepth 100000 in
theorem m_board_Len (a : Option Addr) (w : World) : (method 255 106 (.pointer a) "Len").run Tryz.prog w = .ok (117, .pointer a) w := by kernel_rfl
set_option maxRecDepth 100000 in
theorem m_row_Room (a : Option Addr) (w : World) : (method 255 105 (.pointer a) "Room").run Tryz.prog w = .ok (101, .pointer a) w := by kernel_rfl
set_option maxRecDepth 100000 in
theorem m_board_Room (a : Option Addr) (w : World) : (method 255 106 (.pointer a) "Room").run Tryz.prog w = .ok (120, .pointer a) w := by kernel_rfl
set_option maxRecDepth 100000 in
theorem m_row_Get (a : Option Addr) (w : World) : (method 255 105 (.pointer a) "Get").run Tryz.prog w = .ok (97, .pointer a) w := by kernel_rfl
set_option maxRecDepth 100000 in
theorem m_board_Get (a : Option Addr) (w : World) : (method 255 106 (.pointer a) "Get").run Tryz.prog w = .ok (116, .pointer a) w := by kernel_rfl
set_option maxRecDepth 100000 in
theorem m_row_Set (a : Option Addr) (w : World) : (method 255 105 (.pointer a) "Set").run Tryz.prog w = .ok (102, .pointer a) w := by kernel_rfl
set_option maxRecDepth 100000 in
theorem m_board_Set (a : Option Addr) (w : World) : (method 255 106 (.pointer a) "Set").run Tryz.prog w = .ok (121, .pointer a) w := by kernel_rfl
set_option maxRecDepth 100000 in
theorem m_row_Drop (a : Option Addr) (w : World) : (method 255 105 (.pointer a) "Drop").run Tryz.prog w = .ok (96, .pointer a) w := by kernel_rfl
set_option maxRecDepth 100000 in
theorem m_board_Drop (a : Option Addr) (w : World) : (method 255 106 (.pointer a) "Drop").run Tryz.prog w = .ok (115, .pointer a) w := by kernel_rfl
set_option maxRecDepth 100000 in
theorem m_row_Next (a : Option Addr) (w : World) : (method 255 105 (.pointer a) "Next").run Tryz.prog w = .ok (99, .pointer a) w := by kernel_rfl
set_option maxRecDepth 100000 in
theorem m_board_Next (a : Option Addr) (w : World) : (method 255 106 (.pointer a) "Next").run Tryz.prog w = .ok (118, .pointer a) w := by kernel_rfl
set_option maxRecDepth 100000 in
theorem m_row_Prev (a : Option Addr) (w : World) : (method 255 105 (.pointer a) "Prev").run Tryz.prog w = .ok (100, .pointer a) w := by kernel_rfl
set_option maxRecDepth 100000 in
theorem m_board_Prev (a : Option Addr) (w : World) : (method 255 106 (.pointer a) "Prev").run Tryz.prog w = .ok (119, .pointer a) w := by kernel_rfl
end

section
variable {w : World} {g : Nat} {o : Ho} {room : Nat} {es : List Ent}
set_option maxRecDepth 100000 in
theorem kwhere_any (h : Kr w g o room es) : Calls Tryz.prog 65 #[.pointer (some ⟨g, 0, none⟩)] w fun e w' => e = .returned o.face ∧ w' = w := by
  cases o with
  | row r t =>
    have h0 : w.cell? ⟨g, 0, none⟩ = some (.pointer (some ⟨r, 0, none⟩)) := by rw [Lst.at_ h.two]; rfl
    have h1 : w.cell? ⟨g, 1, none⟩ = some (.pointer none) := by rw [Lst.at_ h.two]; rfl
    clear h
    go_enter Tryz.func65, Tryz.ntmps65
    go_wp2
    go_ret
    exact ⟨rfl, rfl⟩
  | board r v =>
    have h1 : w.cell? ⟨g, 1, none⟩ = some (.pointer (some ⟨r, 0, none⟩)) := by rw [Lst.at_ h.two]; rfl
    clear h
    go_enter Tryz.func65, Tryz.ntmps65
    go_wp2
    go_ret
    exact ⟨rfl, rfl⟩
set_option maxRecDepth 100000 in
theorem klen_row {r t : Nat} (h : Kr w g (Ho.row r t) room es) : Calls Tryz.prog 58 #[.pointer (some ⟨g, 0, none⟩)] w fun e w' => e = .returned (.int .i64 (es.length : Int)) ∧ Still w w' := by
  have C := Lib.hid (kwhere_any h)
  have M := Lib.hid (show Calls Tryz.prog 98 #[.pointer (some ⟨r, 0, none⟩)] w fun e w' => e = .returned (.int .i64 (es.length : Int)) ∧ Still w w' from (len_any (Sm.rd h.is)).mono fun _ _ ⟨q1, q2⟩ => ⟨q1, q2 ▸ Still.refl _⟩)
  have F := m_row_Len (some ⟨r, 0, none⟩)
  clear h
  go_enter Tryz.func58, Tryz.ntmps58
  go_wp2_with fail
  (with_reducible refine C.out.mono ?_)
  rintro e w1 ⟨rfl, rfl⟩
  simp only [Ho.face]
  go_wp2_with fail
  (with_reducible refine M.out.mono ?_)
  rintro e w2 ⟨rfl, ⟨n, rfl⟩⟩
  go_wp2
  go_ret
  exact ⟨rfl, ⟨_, rfl⟩⟩
set_option maxRecDepth 100000 in
theorem klen_board {r : Nat} {v : Value} (h : Kr w g (Ho.board r v) room es) : Calls Tryz.prog 58 #[.pointer (some ⟨g, 0, none⟩)] w fun e w' => e = .returned (.int .i64 (es.length : Int)) ∧ Still w w' := by
  have C := Lib.hid (kwhere_any h)
  have M := Lib.hid (show Calls Tryz.prog 117 #[.pointer (some ⟨r, 0, none⟩)] w fun e w' => e = .returned (.int .i64 (es.length : Int)) ∧ Still w w' from h.is.2.elim fun _ q => wlen_any q)
  have F := m_board_Len (some ⟨r, 0, none⟩)
  clear h
  go_enter Tryz.func58, Tryz.ntmps58
  go_wp2_with fail
  (with_reducible refine C.out.mono ?_)
  rintro e w1 ⟨rfl, rfl⟩
  simp only [Ho.face]
  go_wp2_with fail
  (with_reducible refine M.out.mono ?_)
  rintro e w2 ⟨rfl, ⟨n, rfl⟩⟩
  go_wp2
  go_ret
  exact ⟨rfl, ⟨_, rfl⟩⟩
set_option maxRecDepth 100000 in
theorem klen_any (h : Kr w g o room es) : Calls Tryz.prog 58 #[.pointer (some ⟨g, 0, none⟩)] w fun e w' => e = .returned (.int .i64 (es.length : Int)) ∧ Still w w' := by
  cases o with
  | row r t => exact klen_row h
  | board r v => exact klen_board h
set_option maxRecDepth 100000 in
theorem kkind_row {r t : Nat} (h : Kr w g (Ho.row r t) room es) : Calls Tryz.prog 44 #[.pointer (some ⟨g, 0, none⟩)] w fun e w' => e = .returned (.int .i64 (room : Int)) ∧ Still w w' := by
  have C := Lib.hid (kwhere_any h)
  have M := Lib.hid (show Calls Tryz.prog 101 #[.pointer (some ⟨r, 0, none⟩)] w fun e w' => e = .returned (.int .i64 (room : Int)) ∧ Still w w' from (room_any (Sm.rd h.is)).mono fun _ _ ⟨q1, q2⟩ => ⟨q1, q2 ▸ Still.refl _⟩)
  have F := m_row_Room (some ⟨r, 0, none⟩)
  clear h
  go_enter Tryz.func44, Tryz.ntmps44
  go_wp2_with fail
  (with_reducible refine C.out.mono ?_)
  rintro e w1 ⟨rfl, rfl⟩
  simp only [Ho.face]
  go_wp2_with fail
  (with_reducible refine M.out.mono ?_)
  rintro e w2 ⟨rfl, ⟨n, rfl⟩⟩
  go_wp2
  go_ret
  exact ⟨rfl, ⟨_, rfl⟩⟩
set_option maxRecDepth 100000 in
theorem kkind_board {r : Nat} {v : Value} (h : Kr w g (Ho.board r v) room es) : Calls Tryz.prog 44 #[.pointer (some ⟨g, 0, none⟩)] w fun e w' => e = .returned (.int .i64 (room : Int)) ∧ Still w w' := by
  have C := Lib.hid (kwhere_any h)
  have M := Lib.hid (show Calls Tryz.prog 120 #[.pointer (some ⟨r, 0, none⟩)] w fun e w' => e = .returned (.int .i64 (room : Int)) ∧ Still w w' from h.is.2.elim fun _ q => (wroom_any q).mono fun _ _ ⟨q1, q2⟩ => ⟨q1, q2 ▸ Still.refl _⟩)
  have F := m_board_Room (some ⟨r, 0, none⟩)
  clear h
  go_enter Tryz.func44, Tryz.ntmps44
  go_wp2_with fail
  (with_reducible refine C.out.mono ?_)
  rintro e w1 ⟨rfl, rfl⟩
  simp only [Ho.face]
  go_wp2_with fail
  (with_reducible refine M.out.mono ?_)
  rintro e w2 ⟨rfl, ⟨n, rfl⟩⟩
  go_wp2
  go_ret
  exact ⟨rfl, ⟨_, rfl⟩⟩
set_option maxRecDepth 100000 in
theorem kkind_any (h : Kr w g o room es) : Calls Tryz.prog 44 #[.pointer (some ⟨g, 0, none⟩)] w fun e w' => e = .returned (.int .i64 (room : Int)) ∧ Still w w' := by
  cases o with
  | row r t => exact kkind_row h
  | board r v => exact kkind_board h
set_option maxRecDepth 100000 in
theorem kget_row {r t : Nat} (h : Kr w g (Ho.row r t) room es) (b : UInt8) : Calls Tryz.prog 43 #[.pointer (some ⟨g, 0, none⟩), .int .u8 (b.toNat : Int)] w fun e w' => e = .returned (.tuple #[ev (getE es b.toNat), .bool (hasE es b.toNat)]) ∧ Still w w' := by
  have C := Lib.hid (kwhere_any h)
  have M := Lib.hid (show Calls Tryz.prog 97 #[.pointer (some ⟨r, 0, none⟩), .int .u8 (b.toNat : Int)] w fun e w' => e = .returned (.tuple #[ev (getE es b.toNat), .bool (hasE es b.toNat)]) ∧ Still w w' from sget_any (Sm.rd h.is) b)
  have F := m_row_Get (some ⟨r, 0, none⟩)
  clear h
  go_enter Tryz.func43, Tryz.ntmps43
  go_wp2_with fail
  (with_reducible refine C.out.mono ?_)
  rintro e w1 ⟨rfl, rfl⟩
  simp only [Ho.face]
  go_wp2_with fail
  (with_reducible refine M.out.mono ?_)
  rintro e w2 ⟨rfl, ⟨n, rfl⟩⟩
  go_wp2
  go_ret2
  exact ⟨rfl, ⟨_, rfl⟩⟩
set_option maxRecDepth 100000 in
theorem kget_board {r : Nat} {v : Value} (h : Kr w g (Ho.board r v) room es) (b : UInt8) : Calls Tryz.prog 43 #[.pointer (some ⟨g, 0, none⟩), .int .u8 (b.toNat : Int)] w fun e w' => e = .returned (.tuple #[ev (getE es b.toNat), .bool (hasE es b.toNat)]) ∧ Still w w' := by
  have C := Lib.hid (kwhere_any h)
  have M := Lib.hid (show Calls Tryz.prog 116 #[.pointer (some ⟨r, 0, none⟩), .int .u8 (b.toNat : Int)] w fun e w' => e = .returned (.tuple #[ev (getE es b.toNat), .bool (hasE es b.toNat)]) ∧ Still w w' from h.is.2.elim fun _ q => wget_any q b)
  have F := m_board_Get (some ⟨r, 0, none⟩)
  clear h
  go_enter Tryz.func43, Tryz.ntmps43
  go_wp2_with fail
  (with_reducible refine C.out.mono ?_)
  rintro e w1 ⟨rfl, rfl⟩
  simp only [Ho.face]
  go_wp2_with fail
  (with_reducible refine M.out.mono ?_)
  rintro e w2 ⟨rfl, ⟨n, rfl⟩⟩
  go_wp2
  go_ret2
  exact ⟨rfl, ⟨_, rfl⟩⟩
set_option maxRecDepth 100000 in
theorem kget_any (h : Kr w g o room es) (b : UInt8) : Calls Tryz.prog 43 #[.pointer (some ⟨g, 0, none⟩), .int .u8 (b.toNat : Int)] w fun e w' => e = .returned (.tuple #[ev (getE es b.toNat), .bool (hasE es b.toNat)]) ∧ Still w w' := by
  cases o with
  | row r t => exact kget_row h b
  | board r v => exact kget_board h b
set_option maxRecDepth 100000 in
theorem knext_row {r t : Nat} (h : Kr w g (Ho.row r t) room es) (a : Int) (ha : -9223372036854775808 ≤ a) : Calls Tryz.prog 55 #[.pointer (some ⟨g, 0, none⟩), .int .i64 a] w fun e w' => e = .returned (entV (nextE es a)) ∧ Still w w' := by
  have C := Lib.hid (kwhere_any h)
  have M := Lib.hid (show Calls Tryz.prog 99 #[.pointer (some ⟨r, 0, none⟩), .int .i64 a] w fun e w' => e = .returned (entV (nextE es a)) ∧ Still w w' from snext_any (Sm.rd h.is) a ha)
  obtain ⟨s, hs⟩ : ∃ s, s = (nextE es a) := ⟨_, rfl⟩
  rw [← hs] at M ⊢
  clear hs
  have F := m_row_Next (some ⟨r, 0, none⟩)
  clear h
  go_enter Tryz.func55, Tryz.ntmps55
  go_wp2_with fail
  (with_reducible refine C.out.mono ?_)
  rintro e w1 ⟨rfl, rfl⟩
  simp only [Ho.face]
  go_wp2_with fail
  (with_reducible refine M.out.mono ?_)
  rintro e w2 ⟨rfl, ⟨n, rfl⟩⟩
  simp only [entV]
  go_wp2
  go_ret3
  exact ⟨rfl, ⟨_, rfl⟩⟩
set_option maxRecDepth 100000 in
theorem knext_board {r : Nat} {v : Value} (h : Kr w g (Ho.board r v) room es) (a : Int) (ha : -9223372036854775808 ≤ a) : Calls Tryz.prog 55 #[.pointer (some ⟨g, 0, none⟩), .int .i64 a] w fun e w' => e = .returned (entV (nextE es a)) ∧ Still w w' := by
  have C := Lib.hid (kwhere_any h)
  have M := Lib.hid (show Calls Tryz.prog 118 #[.pointer (some ⟨r, 0, none⟩), .int .i64 a] w fun e w' => e = .returned (entV (nextE es a)) ∧ Still w w' from h.is.2.elim fun _ q => wnext_any q a ha)
  obtain ⟨s, hs⟩ : ∃ s, s = (nextE es a) := ⟨_, rfl⟩
  rw [← hs] at M ⊢
  clear hs
  have F := m_board_Next (some ⟨r, 0, none⟩)
  clear h
  go_enter Tryz.func55, Tryz.ntmps55
  go_wp2_with fail
  (with_reducible refine C.out.mono ?_)
  rintro e w1 ⟨rfl, rfl⟩
  simp only [Ho.face]
  go_wp2_with fail
  (with_reducible refine M.out.mono ?_)
  rintro e w2 ⟨rfl, ⟨n, rfl⟩⟩
  simp only [entV]
  go_wp2
  go_ret3
  exact ⟨rfl, ⟨_, rfl⟩⟩
set_option maxRecDepth 100000 in
theorem knext_any (h : Kr w g o room es) (a : Int) (ha : -9223372036854775808 ≤ a) : Calls Tryz.prog 55 #[.pointer (some ⟨g, 0, none⟩), .int .i64 a] w fun e w' => e = .returned (entV (nextE es a)) ∧ Still w w' := by
  cases o with
  | row r t => exact knext_row h a ha
  | board r v => exact knext_board h a ha
set_option maxRecDepth 100000 in
theorem kprev_row {r t : Nat} (h : Kr w g (Ho.row r t) room es) (a : Int) (ha : a ≤ 9223372036854775807) : Calls Tryz.prog 56 #[.pointer (some ⟨g, 0, none⟩), .int .i64 a] w fun e w' => e = .returned (entV (prevE es a)) ∧ Still w w' := by
  have C := Lib.hid (kwhere_any h)
  have M := Lib.hid (show Calls Tryz.prog 100 #[.pointer (some ⟨r, 0, none⟩), .int .i64 a] w fun e w' => e = .returned (entV (prevE es a)) ∧ Still w w' from sprev_any (Sm.rd h.is) a ha)
  obtain ⟨s, hs⟩ : ∃ s, s = (prevE es a) := ⟨_, rfl⟩
  rw [← hs] at M ⊢
  clear hs
  have F := m_row_Prev (some ⟨r, 0, none⟩)
  clear h
  go_enter Tryz.func56, Tryz.ntmps56
  go_wp2_with fail
  (with_reducible refine C.out.mono ?_)
  rintro e w1 ⟨rfl, rfl⟩
  simp only [Ho.face]
  go_wp2_with fail
  (with_reducible refine M.out.mono ?_)
  rintro e w2 ⟨rfl, ⟨n, rfl⟩⟩
  simp only [entV]
  go_wp2
  go_ret3
  exact ⟨rfl, ⟨_, rfl⟩⟩
set_option maxRecDepth 100000 in
theorem kprev_board {r : Nat} {v : Value} (h : Kr w g (Ho.board r v) room es) (a : Int) (ha : a ≤ 9223372036854775807) : Calls Tryz.prog 56 #[.pointer (some ⟨g, 0, none⟩), .int .i64 a] w fun e w' => e = .returned (entV (prevE es a)) ∧ Still w w' := by
  have C := Lib.hid (kwhere_any h)
  have M := Lib.hid (show Calls Tryz.prog 119 #[.pointer (some ⟨r, 0, none⟩), .int .i64 a] w fun e w' => e = .returned (entV (prevE es a)) ∧ Still w w' from h.is.2.elim fun _ q => wprev_any q a ha)
  obtain ⟨s, hs⟩ : ∃ s, s = (prevE es a) := ⟨_, rfl⟩
  rw [← hs] at M ⊢
  clear hs
  have F := m_board_Prev (some ⟨r, 0, none⟩)
  clear h
  go_enter Tryz.func56, Tryz.ntmps56
  go_wp2_with fail
  (with_reducible refine C.out.mono ?_)
  rintro e w1 ⟨rfl, rfl⟩
  simp only [Ho.face]
  go_wp2_with fail
  (with_reducible refine M.out.mono ?_)
  rintro e w2 ⟨rfl, ⟨n, rfl⟩⟩
  simp only [entV]
  go_wp2
  go_ret3
  exact ⟨rfl, ⟨_, rfl⟩⟩
set_option maxRecDepth 100000 in
theorem kprev_any (h : Kr w g o room es) (a : Int) (ha : a ≤ 9223372036854775807) : Calls Tryz.prog 56 #[.pointer (some ⟨g, 0, none⟩), .int .i64 a] w fun e w' => e = .returned (entV (prevE es a)) ∧ Still w w' := by
  cases o with
  | row r t => exact kprev_row h a ha
  | board r v => exact kprev_board h a ha
end
end Go.Proofs.YtgelmhldicmmdaaGreat
