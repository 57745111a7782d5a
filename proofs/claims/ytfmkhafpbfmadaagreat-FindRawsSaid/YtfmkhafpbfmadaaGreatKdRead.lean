/-
  Package kids: what kids tell, and what nobody's tell.
-/
import Derived.Test.YtfmkhafpbfmadaaGreatKdMem
namespace Go.Proofs.YtfmkhafpbfmadaaGreat
open Go.RowKit

section
set_option maxRecDepth 100000 in
theorem m_row_Len (a : Option Addr) (w : World) : (method 271 118 (.pointer a) "Len").run Tryz.prog w = .ok (112, .pointer a) w := by kernel_rfl
set_option maxRecDepth 100000 in
theorem m_board_Len (a : Option Addr) (w : World) : (method 271 119 (.pointer a) "Len").run Tryz.prog w = .ok (130, .pointer a) w := by kernel_rfl
set_option maxRecDepth 100000 in
theorem m_row_Room (a : Option Addr) (w : World) : (method 271 118 (.pointer a) "Room").run Tryz.prog w = .ok (115, .pointer a) w := by kernel_rfl
set_option maxRecDepth 100000 in
theorem m_board_Room (a : Option Addr) (w : World) : (method 271 119 (.pointer a) "Room").run Tryz.prog w = .ok (133, .pointer a) w := by kernel_rfl
set_option maxRecDepth 100000 in
theorem m_row_Get (a : Option Addr) (w : World) : (method 271 118 (.pointer a) "Get").run Tryz.prog w = .ok (111, .pointer a) w := by kernel_rfl
set_option maxRecDepth 100000 in
theorem m_board_Get (a : Option Addr) (w : World) : (method 271 119 (.pointer a) "Get").run Tryz.prog w = .ok (129, .pointer a) w := by kernel_rfl
set_option maxRecDepth 100000 in
theorem m_row_Set (a : Option Addr) (w : World) : (method 271 118 (.pointer a) "Set").run Tryz.prog w = .ok (116, .pointer a) w := by kernel_rfl
set_option maxRecDepth 100000 in
theorem m_board_Set (a : Option Addr) (w : World) : (method 271 119 (.pointer a) "Set").run Tryz.prog w = .ok (134, .pointer a) w := by kernel_rfl
set_option maxRecDepth 100000 in
theorem m_row_Next (a : Option Addr) (w : World) : (method 271 118 (.pointer a) "Next").run Tryz.prog w = .ok (113, .pointer a) w := by kernel_rfl
set_option maxRecDepth 100000 in
theorem m_board_Next (a : Option Addr) (w : World) : (method 271 119 (.pointer a) "Next").run Tryz.prog w = .ok (131, .pointer a) w := by kernel_rfl
end

section
variable {w : World} {g : Nat} {o : Ho} {room : Nat} {es : List Ent}
set_option maxRecDepth 100000 in
theorem kwhere_any (h : Kr w g o room es) : Calls Tryz.prog 63 #[.pointer (some ⟨g, 0, none⟩)] w fun e w' => e = .returned o.face ∧ w' = w := by
  cases o with
  | row r t =>
    have h0 : w.cell? ⟨g, 0, none⟩ = some (.pointer (some ⟨r, 0, none⟩)) := by rw [Lst.at_ h.two]; rfl
    have h1 : w.cell? ⟨g, 1, none⟩ = some (.pointer none) := by rw [Lst.at_ h.two]; rfl
    clear h
    go_enter Tryz.func63, Tryz.ntmps63
    go_wp2
    go_ret
    exact ⟨rfl, rfl⟩
  | board r v =>
    have h1 : w.cell? ⟨g, 1, none⟩ = some (.pointer (some ⟨r, 0, none⟩)) := by rw [Lst.at_ h.two]; rfl
    clear h
    go_enter Tryz.func63, Tryz.ntmps63
    go_wp2
    go_ret
    exact ⟨rfl, rfl⟩
set_option maxRecDepth 100000 in
theorem klen_row {r t : Nat} (h : Kr w g (Ho.row r t) room es) : Calls Tryz.prog 65 #[.pointer (some ⟨g, 0, none⟩)] w fun e w' => e = .returned (.int .i64 (es.length : Int)) ∧ Still w w' := by
  have C := Lib.hid (kwhere_any h)
  have M := Lib.hid (show Calls Tryz.prog 112 #[.pointer (some ⟨r, 0, none⟩)] w fun e w' => e = .returned (.int .i64 (es.length : Int)) ∧ Still w w' from (len_any (Sm.rd h.is)).mono fun _ _ ⟨q1, q2⟩ => ⟨q1, q2 ▸ Still.refl _⟩)
  have F := m_row_Len (some ⟨r, 0, none⟩)
  clear h
  go_enter Tryz.func65, Tryz.ntmps65
  go_wp2_with fail
  (with_reducible refine C.out.mono ?_)
  rintro e w1 ⟨rfl, rfl⟩
  simp only [Ho.face]
  go_wp2_with fail
  (with_reducible refine M.out.mono ?_)
  rintro e w2 ⟨rfl, ⟨n, rfl⟩⟩
  go_wp2
  go_ret
  exact ⟨rfl, ⟨_, rfl⟩⟩
set_option maxRecDepth 100000 in
theorem klen_board {r : Nat} {v : Value} (h : Kr w g (Ho.board r v) room es) : Calls Tryz.prog 65 #[.pointer (some ⟨g, 0, none⟩)] w fun e w' => e = .returned (.int .i64 (es.length : Int)) ∧ Still w w' := by
  have C := Lib.hid (kwhere_any h)
  have M := Lib.hid (show Calls Tryz.prog 130 #[.pointer (some ⟨r, 0, none⟩)] w fun e w' => e = .returned (.int .i64 (es.length : Int)) ∧ Still w w' from h.is.2.elim fun _ q => wlen_any q)
  have F := m_board_Len (some ⟨r, 0, none⟩)
  clear h
  go_enter Tryz.func65, Tryz.ntmps65
  go_wp2_with fail
  (with_reducible refine C.out.mono ?_)
  rintro e w1 ⟨rfl, rfl⟩
  simp only [Ho.face]
  go_wp2_with fail
  (with_reducible refine M.out.mono ?_)
  rintro e w2 ⟨rfl, ⟨n, rfl⟩⟩
  go_wp2
  go_ret
  exact ⟨rfl, ⟨_, rfl⟩⟩
set_option maxRecDepth 100000 in
theorem klen_any (h : Kr w g o room es) : Calls Tryz.prog 65 #[.pointer (some ⟨g, 0, none⟩)] w fun e w' => e = .returned (.int .i64 (es.length : Int)) ∧ Still w w' := by
  cases o with
  | row r t => exact klen_row h
  | board r v => exact klen_board h
set_option maxRecDepth 100000 in
theorem kkind_row {r t : Nat} (h : Kr w g (Ho.row r t) room es) : Calls Tryz.prog 71 #[.pointer (some ⟨g, 0, none⟩)] w fun e w' => e = .returned (.int .i64 (room : Int)) ∧ Still w w' := by
  have C := Lib.hid (kwhere_any h)
  have M := Lib.hid (show Calls Tryz.prog 115 #[.pointer (some ⟨r, 0, none⟩)] w fun e w' => e = .returned (.int .i64 (room : Int)) ∧ Still w w' from (room_any (Sm.rd h.is)).mono fun _ _ ⟨q1, q2⟩ => ⟨q1, q2 ▸ Still.refl _⟩)
  have F := m_row_Room (some ⟨r, 0, none⟩)
  clear h
  go_enter Tryz.func71, Tryz.ntmps71
  go_wp2_with fail
  (with_reducible refine C.out.mono ?_)
  rintro e w1 ⟨rfl, rfl⟩
  simp only [Ho.face]
  go_wp2_with fail
  (with_reducible refine M.out.mono ?_)
  rintro e w2 ⟨rfl, ⟨n, rfl⟩⟩
  go_wp2
  go_ret
  exact ⟨rfl, ⟨_, rfl⟩⟩
set_option maxRecDepth 100000 in
theorem kkind_board {r : Nat} {v : Value} (h : Kr w g (Ho.board r v) room es) : Calls Tryz.prog 71 #[.pointer (some ⟨g, 0, none⟩)] w fun e w' => e = .returned (.int .i64 (room : Int)) ∧ Still w w' := by
  have C := Lib.hid (kwhere_any h)
  have M := Lib.hid (show Calls Tryz.prog 133 #[.pointer (some ⟨r, 0, none⟩)] w fun e w' => e = .returned (.int .i64 (room : Int)) ∧ Still w w' from h.is.2.elim fun _ q => (wroom_any q).mono fun _ _ ⟨q1, q2⟩ => ⟨q1, q2 ▸ Still.refl _⟩)
  have F := m_board_Room (some ⟨r, 0, none⟩)
  clear h
  go_enter Tryz.func71, Tryz.ntmps71
  go_wp2_with fail
  (with_reducible refine C.out.mono ?_)
  rintro e w1 ⟨rfl, rfl⟩
  simp only [Ho.face]
  go_wp2_with fail
  (with_reducible refine M.out.mono ?_)
  rintro e w2 ⟨rfl, ⟨n, rfl⟩⟩
  go_wp2
  go_ret
  exact ⟨rfl, ⟨_, rfl⟩⟩
set_option maxRecDepth 100000 in
theorem kkind_any (h : Kr w g o room es) : Calls Tryz.prog 71 #[.pointer (some ⟨g, 0, none⟩)] w fun e w' => e = .returned (.int .i64 (room : Int)) ∧ Still w w' := by
  cases o with
  | row r t => exact kkind_row h
  | board r v => exact kkind_board h
set_option maxRecDepth 100000 in
theorem kget_row {r t : Nat} (h : Kr w g (Ho.row r t) room es) (b : UInt8) : Calls Tryz.prog 73 #[.pointer (some ⟨g, 0, none⟩), .int .u8 (b.toNat : Int)] w fun e w' => e = .returned (.tuple #[ev (getE es b.toNat), .bool (hasE es b.toNat)]) ∧ Still w w' := by
  have C := Lib.hid (kwhere_any h)
  have M := Lib.hid (show Calls Tryz.prog 111 #[.pointer (some ⟨r, 0, none⟩), .int .u8 (b.toNat : Int)] w fun e w' => e = .returned (.tuple #[ev (getE es b.toNat), .bool (hasE es b.toNat)]) ∧ Still w w' from sget_any (Sm.rd h.is) b)
  have F := m_row_Get (some ⟨r, 0, none⟩)
  clear h
  go_enter Tryz.func73, Tryz.ntmps73
  go_wp2_with fail
  (with_reducible refine C.out.mono ?_)
  rintro e w1 ⟨rfl, rfl⟩
  simp only [Ho.face]
  go_wp2_with fail
  (with_reducible refine M.out.mono ?_)
  rintro e w2 ⟨rfl, ⟨n, rfl⟩⟩
  go_wp2
  go_ret2
  exact ⟨rfl, ⟨_, rfl⟩⟩
set_option maxRecDepth 100000 in
theorem kget_board {r : Nat} {v : Value} (h : Kr w g (Ho.board r v) room es) (b : UInt8) : Calls Tryz.prog 73 #[.pointer (some ⟨g, 0, none⟩), .int .u8 (b.toNat : Int)] w fun e w' => e = .returned (.tuple #[ev (getE es b.toNat), .bool (hasE es b.toNat)]) ∧ Still w w' := by
  have C := Lib.hid (kwhere_any h)
  have M := Lib.hid (show Calls Tryz.prog 129 #[.pointer (some ⟨r, 0, none⟩), .int .u8 (b.toNat : Int)] w fun e w' => e = .returned (.tuple #[ev (getE es b.toNat), .bool (hasE es b.toNat)]) ∧ Still w w' from h.is.2.elim fun _ q => wget_any q b)
  have F := m_board_Get (some ⟨r, 0, none⟩)
  clear h
  go_enter Tryz.func73, Tryz.ntmps73
  go_wp2_with fail
  (with_reducible refine C.out.mono ?_)
  rintro e w1 ⟨rfl, rfl⟩
  simp only [Ho.face]
  go_wp2_with fail
  (with_reducible refine M.out.mono ?_)
  rintro e w2 ⟨rfl, ⟨n, rfl⟩⟩
  go_wp2
  go_ret2
  exact ⟨rfl, ⟨_, rfl⟩⟩
set_option maxRecDepth 100000 in
theorem kget_any (h : Kr w g o room es) (b : UInt8) : Calls Tryz.prog 73 #[.pointer (some ⟨g, 0, none⟩), .int .u8 (b.toNat : Int)] w fun e w' => e = .returned (.tuple #[ev (getE es b.toNat), .bool (hasE es b.toNat)]) ∧ Still w w' := by
  cases o with
  | row r t => exact kget_row h b
  | board r v => exact kget_board h b
set_option maxRecDepth 100000 in
theorem knext_row {r t : Nat} (h : Kr w g (Ho.row r t) room es) (a : Int) (ha : -9223372036854775808 ≤ a) : Calls Tryz.prog 74 #[.pointer (some ⟨g, 0, none⟩), .int .i64 a] w fun e w' => e = .returned (entV (nextE es a)) ∧ Still w w' := by
  have C := Lib.hid (kwhere_any h)
  have M := Lib.hid (show Calls Tryz.prog 113 #[.pointer (some ⟨r, 0, none⟩), .int .i64 a] w fun e w' => e = .returned (entV (nextE es a)) ∧ Still w w' from snext_any (Sm.rd h.is) a ha)
  obtain ⟨s, hs⟩ : ∃ s, s = (nextE es a) := ⟨_, rfl⟩
  rw [← hs] at M ⊢
  clear hs
  have F := m_row_Next (some ⟨r, 0, none⟩)
  clear h
  go_enter Tryz.func74, Tryz.ntmps74
  go_wp2_with fail
  (with_reducible refine C.out.mono ?_)
  rintro e w1 ⟨rfl, rfl⟩
  simp only [Ho.face]
  go_wp2_with fail
  (with_reducible refine M.out.mono ?_)
  rintro e w2 ⟨rfl, ⟨n, rfl⟩⟩
  simp only [entV]
  go_wp2
  go_ret3
  exact ⟨rfl, ⟨_, rfl⟩⟩
set_option maxRecDepth 100000 in
theorem knext_board {r : Nat} {v : Value} (h : Kr w g (Ho.board r v) room es) (a : Int) (ha : -9223372036854775808 ≤ a) : Calls Tryz.prog 74 #[.pointer (some ⟨g, 0, none⟩), .int .i64 a] w fun e w' => e = .returned (entV (nextE es a)) ∧ Still w w' := by
  have C := Lib.hid (kwhere_any h)
  have M := Lib.hid (show Calls Tryz.prog 131 #[.pointer (some ⟨r, 0, none⟩), .int .i64 a] w fun e w' => e = .returned (entV (nextE es a)) ∧ Still w w' from h.is.2.elim fun _ q => wnext_any q a ha)
  obtain ⟨s, hs⟩ : ∃ s, s = (nextE es a) := ⟨_, rfl⟩
  rw [← hs] at M ⊢
  clear hs
  have F := m_board_Next (some ⟨r, 0, none⟩)
  clear h
  go_enter Tryz.func74, Tryz.ntmps74
  go_wp2_with fail
  (with_reducible refine C.out.mono ?_)
  rintro e w1 ⟨rfl, rfl⟩
  simp only [Ho.face]
  go_wp2_with fail
  (with_reducible refine M.out.mono ?_)
  rintro e w2 ⟨rfl, ⟨n, rfl⟩⟩
  simp only [entV]
  go_wp2
  go_ret3
  exact ⟨rfl, ⟨_, rfl⟩⟩
set_option maxRecDepth 100000 in
theorem knext_any (h : Kr w g o room es) (a : Int) (ha : -9223372036854775808 ≤ a) : Calls Tryz.prog 74 #[.pointer (some ⟨g, 0, none⟩), .int .i64 a] w fun e w' => e = .returned (entV (nextE es a)) ∧ Still w w' := by
  cases o with
  | row r t => exact knext_row h a ha
  | board r v => exact knext_board h a ha
end
end Go.Proofs.YtfmkhafpbfmadaaGreat
