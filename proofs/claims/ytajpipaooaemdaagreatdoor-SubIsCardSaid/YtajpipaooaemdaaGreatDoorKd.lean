/-
  Words for kids in memory: a row or a board that stands for them, its blocks, the block of the kids themselves.
  Package kids: what kids tell, and what nobody's tell.
  Package kids: KindOf; and the document's.
-/
import Derived.Test.YtajpipaooaemdaaGreatDoorSm
import Derived.Test.YtajpipaooaemdaaGreatDoorBd
namespace Go.Proofs.YtajpipaooaemdaaGreatDoor
open Go.RowKit

/-- A row, with its block and its things' block; a board, with its block and its things' slice. -/
inductive Ho where
  | row (r t : Nat)
  | board (r : Nat) (v : Value)
/-- Its blocks. -/
def Ho.D : Ho → Nat → Prop
  | .row r t => fun i => i = r ∨ i = t
  | .board r v => bdD r v
def Ho.ptr : Ho → Value
  | .row r _ => .pointer (some ⟨r, 0, none⟩)
  | .board r _ => .pointer (some ⟨r, 0, none⟩)
/-- It, as one of either. -/
def Ho.face : Ho → Value
  | .row r _ => .iface 139 (.pointer (some ⟨r, 0, none⟩))
  | .board r _ => .iface 140 (.pointer (some ⟨r, 0, none⟩))
/-- It holds es, and has this room. -/
def Ho.Is (w : World) (room : Nat) (es : List Ent) : Ho → Prop
  | .row r t => Sm w r t room es
  | .board r v => (room = 48 ∨ room = 256) ∧ ∃ u, Bd w r v room es u
/-- The two cells of kids. -/
def Ho.two : Ho → List Value
  | .row r _ => [.pointer (some ⟨r, 0, none⟩), .pointer none]
  | .board r _ => [.pointer none, .pointer (some ⟨r, 0, none⟩)]
section
variable {w w' : World} {o : Ho} {room : Nat} {es : List Ent}
theorem Ho.Is.up (h : o.Is w room es) : Up es := by
  cases o with
  | row r t => exact Sm.up h
  | board r v => obtain ⟨_, u, h⟩ := h; exact h.up
theorem Ho.Is.few (h : o.Is w room es) : es.length ≤ room ∧ room ≤ 256 ∧ 1 ≤ room := by
  cases o with
  | row r t => exact ⟨Sm.few h, by have := Sm.most h; omega, Sm.lo h⟩
  | board r v => obtain ⟨hr, u, h⟩ := h; have := h.few; omega
theorem Ho.Is.kept (h : o.Is w room es) {D : Nat → Prop} (hk : Kept D w w') (hD : ∀ i, o.D i → ¬ D i) : o.Is w' room es := by
  cases o with
  | row r t => exact Sm.kept h hk (hD r (.inl rfl)) (hD t (.inr rfl))
  | board r v => obtain ⟨hr, u, h⟩ := h; exact ⟨hr, u, h.kept hk hD⟩
theorem Ho.Is.lt (h : o.Is w room es) {i : Nat} (hi : o.D i) : i < w.heap.size := by
  cases o with
  | row r t => exact hi.elim (fun e => e ▸ (Sm.lt h).1) (fun e => e ▸ (Sm.lt h).2)
  | board r v =>
    obtain ⟨hr, u, h⟩ := h
    rcases hi with rfl | hi
    · exact h.lt.1
    · exact h.lt.2 i hi
theorem Ho.Is.below (h : o.Is w room es) (hk : Below w.heap.size w w') : o.Is w' room es := h.kept (D := fun _ => False) (Kept.of_below hk) (fun _ _ q => q)
theorem Ho.Is.still (h : o.Is w room es) (hs : Still w w') : o.Is w' room es := h.kept (D := fun _ => False) (Kept.still hs) (fun _ _ q => q)
theorem Ho.Is.drewN (h : o.Is w room es) (n : Nat) : o.Is (w.drewN n) room es := h.still ⟨n, rfl⟩
end

/-- What kind so many have. -/
def kindN (n : Nat) : Nat := if n ≤ 4 then 4 else if n ≤ 16 then 16 else if n ≤ 48 then 48 else 256

/-- The block g are kids of this room that hold es; o stands for them. -/
structure Kr (w : World) (g : Nat) (o : Ho) (room : Nat) (es : List Ent) : Prop where
  two : Lst w g o.two
  is : o.Is w room es
  ne : ¬ o.D g
/-- All blocks of kids. -/
def Ho.all (o : Ho) (g : Nat) : Nat → Prop := fun i => i = g ∨ o.D i
section
variable {w w' : World} {g : Nat} {o : Ho} {room : Nat} {es : List Ent}
theorem Kr.kept (h : Kr w g o room es) {D : Nat → Prop} (hk : Kept D w w') (hD : ∀ i, o.all g i → ¬ D i) : Kr w' g o room es :=
  ⟨hk.blk h.two (hD g (.inl rfl)), h.is.kept hk (fun i hi => hD i (.inr hi)), h.ne⟩
theorem Kr.lt (h : Kr w g o room es) {i : Nat} (hi : o.all g i) : i < w.heap.size := by
  rcases hi with rfl | hi
  · exact Blk.lt h.two
  · exact h.is.lt hi
theorem Kr.lt0 (h : Kr w g o room es) : g < w.heap.size := h.lt (.inl rfl)
theorem Kr.below (h : Kr w g o room es) (hk : Below w.heap.size w w') : Kr w' g o room es := h.kept (D := fun _ => False) (Kept.of_below hk) (fun _ _ q => q)
theorem Kr.still (h : Kr w g o room es) (hs : Still w w') : Kr w' g o room es := h.kept (D := fun _ => False) (Kept.still hs) (fun _ _ q => q)
theorem Kr.drewN (h : Kr w g o room es) (n : Nat) : Kr (w.drewN n) g o room es := h.still ⟨n, rfl⟩
end
end Go.Proofs.YtajpipaooaemdaaGreatDoor

namespace Go.Proofs.YtajpipaooaemdaaGreatDoor
open Go.RowKit

section
set_option maxRecDepth 100000 in
theorem m_row_Len (a : Option Addr) (w : World) : (method 291 139 (.pointer a) "Len").run Tryz.prog w = .ok (136, .pointer a) w := by kernel_rfl
set_option maxRecDepth 100000 in
theorem m_board_Len (a : Option Addr) (w : World) : (method 291 140 (.pointer a) "Len").run Tryz.prog w = .ok (154, .pointer a) w := by kernel_rfl
set_option maxRecDepth 100000 in
theorem m_row_Room (a : Option Addr) (w : World) : (method 291 139 (.pointer a) "Room").run Tryz.prog w = .ok (139, .pointer a) w := by kernel_rfl
set_option maxRecDepth 100000 in
theorem m_board_Room (a : Option Addr) (w : World) : (method 291 140 (.pointer a) "Room").run Tryz.prog w = .ok (157, .pointer a) w := by kernel_rfl
set_option maxRecDepth 100000 in
theorem m_row_Get (a : Option Addr) (w : World) : (method 291 139 (.pointer a) "Get").run Tryz.prog w = .ok (135, .pointer a) w := by kernel_rfl
set_option maxRecDepth 100000 in
theorem m_board_Get (a : Option Addr) (w : World) : (method 291 140 (.pointer a) "Get").run Tryz.prog w = .ok (153, .pointer a) w := by kernel_rfl
set_option maxRecDepth 100000 in
theorem m_row_Set (a : Option Addr) (w : World) : (method 291 139 (.pointer a) "Set").run Tryz.prog w = .ok (140, .pointer a) w := by kernel_rfl
set_option maxRecDepth 100000 in
theorem m_board_Set (a : Option Addr) (w : World) : (method 291 140 (.pointer a) "Set").run Tryz.prog w = .ok (158, .pointer a) w := by kernel_rfl
set_option maxRecDepth 100000 in
theorem m_row_Next (a : Option Addr) (w : World) : (method 291 139 (.pointer a) "Next").run Tryz.prog w = .ok (137, .pointer a) w := by kernel_rfl
set_option maxRecDepth 100000 in
theorem m_board_Next (a : Option Addr) (w : World) : (method 291 140 (.pointer a) "Next").run Tryz.prog w = .ok (155, .pointer a) w := by kernel_rfl
end

section
variable {w : World} {g : Nat} {o : Ho} {room : Nat} {es : List Ent}
set_option maxRecDepth 100000 in
theorem kwhere_any (h : Kr w g o room es) : Calls Tryz.prog 76 #[.pointer (some ⟨g, 0, none⟩)] w fun e w' => e = .returned o.face ∧ w' = w := by
  cases o with
  | row r t =>
    have h0 : w.cell? ⟨g, 0, none⟩ = some (.pointer (some ⟨r, 0, none⟩)) := by rw [Lst.at_ h.two]; rfl
    have h1 : w.cell? ⟨g, 1, none⟩ = some (.pointer none) := by rw [Lst.at_ h.two]; rfl
    clear h
    go_enter Tryz.func76, Tryz.ntmps76
    go_wp2
    go_ret
    exact ⟨rfl, rfl⟩
  | board r v =>
    have h1 : w.cell? ⟨g, 1, none⟩ = some (.pointer (some ⟨r, 0, none⟩)) := by rw [Lst.at_ h.two]; rfl
    clear h
    go_enter Tryz.func76, Tryz.ntmps76
    go_wp2
    go_ret
    exact ⟨rfl, rfl⟩
set_option maxRecDepth 100000 in
theorem klen_row {r t : Nat} (h : Kr w g (Ho.row r t) room es) : Calls Tryz.prog 104 #[.pointer (some ⟨g, 0, none⟩)] w fun e w' => e = .returned (.int .i64 (es.length : Int)) ∧ Still w w' := by
  have C := Lib.hid (kwhere_any h)
  have M := Lib.hid (show Calls Tryz.prog 136 #[.pointer (some ⟨r, 0, none⟩)] w fun e w' => e = .returned (.int .i64 (es.length : Int)) ∧ Still w w' from (len_any (Sm.rd h.is)).mono fun _ _ ⟨q1, q2⟩ => ⟨q1, q2 ▸ Still.refl _⟩)
  have F := m_row_Len (some ⟨r, 0, none⟩)
  clear h
  go_enter Tryz.func104, Tryz.ntmps104
  go_wp2_with fail
  (with_reducible refine C.out.mono ?_)
  rintro e w1 ⟨rfl, rfl⟩
  simp only [Ho.face]
  go_wp2_with fail
  (with_reducible refine M.out.mono ?_)
  rintro e w2 ⟨rfl, ⟨n, rfl⟩⟩
  go_wp2
  go_ret
  exact ⟨rfl, ⟨_, rfl⟩⟩
set_option maxRecDepth 100000 in
theorem klen_board {r : Nat} {v : Value} (h : Kr w g (Ho.board r v) room es) : Calls Tryz.prog 104 #[.pointer (some ⟨g, 0, none⟩)] w fun e w' => e = .returned (.int .i64 (es.length : Int)) ∧ Still w w' := by
  have C := Lib.hid (kwhere_any h)
  have M := Lib.hid (show Calls Tryz.prog 154 #[.pointer (some ⟨r, 0, none⟩)] w fun e w' => e = .returned (.int .i64 (es.length : Int)) ∧ Still w w' from h.is.2.elim fun _ q => wlen_any q)
  have F := m_board_Len (some ⟨r, 0, none⟩)
  clear h
  go_enter Tryz.func104, Tryz.ntmps104
  go_wp2_with fail
  (with_reducible refine C.out.mono ?_)
  rintro e w1 ⟨rfl, rfl⟩
  simp only [Ho.face]
  go_wp2_with fail
  (with_reducible refine M.out.mono ?_)
  rintro e w2 ⟨rfl, ⟨n, rfl⟩⟩
  go_wp2
  go_ret
  exact ⟨rfl, ⟨_, rfl⟩⟩
set_option maxRecDepth 100000 in
theorem klen_any (h : Kr w g o room es) : Calls Tryz.prog 104 #[.pointer (some ⟨g, 0, none⟩)] w fun e w' => e = .returned (.int .i64 (es.length : Int)) ∧ Still w w' := by
  cases o with
  | row r t => exact klen_row h
  | board r v => exact klen_board h
set_option maxRecDepth 100000 in
theorem kkind_row {r t : Nat} (h : Kr w g (Ho.row r t) room es) : Calls Tryz.prog 55 #[.pointer (some ⟨g, 0, none⟩)] w fun e w' => e = .returned (.int .i64 (room : Int)) ∧ Still w w' := by
  have C := Lib.hid (kwhere_any h)
  have M := Lib.hid (show Calls Tryz.prog 139 #[.pointer (some ⟨r, 0, none⟩)] w fun e w' => e = .returned (.int .i64 (room : Int)) ∧ Still w w' from (room_any (Sm.rd h.is)).mono fun _ _ ⟨q1, q2⟩ => ⟨q1, q2 ▸ Still.refl _⟩)
  have F := m_row_Room (some ⟨r, 0, none⟩)
  clear h
  go_enter Tryz.func55, Tryz.ntmps55
  go_wp2_with fail
  (with_reducible refine C.out.mono ?_)
  rintro e w1 ⟨rfl, rfl⟩
  simp only [Ho.face]
  go_wp2_with fail
  (with_reducible refine M.out.mono ?_)
  rintro e w2 ⟨rfl, ⟨n, rfl⟩⟩
  go_wp2
  go_ret
  exact ⟨rfl, ⟨_, rfl⟩⟩
set_option maxRecDepth 100000 in
theorem kkind_board {r : Nat} {v : Value} (h : Kr w g (Ho.board r v) room es) : Calls Tryz.prog 55 #[.pointer (some ⟨g, 0, none⟩)] w fun e w' => e = .returned (.int .i64 (room : Int)) ∧ Still w w' := by
  have C := Lib.hid (kwhere_any h)
  have M := Lib.hid (show Calls Tryz.prog 157 #[.pointer (some ⟨r, 0, none⟩)] w fun e w' => e = .returned (.int .i64 (room : Int)) ∧ Still w w' from h.is.2.elim fun _ q => (wroom_any q).mono fun _ _ ⟨q1, q2⟩ => ⟨q1, q2 ▸ Still.refl _⟩)
  have F := m_board_Room (some ⟨r, 0, none⟩)
  clear h
  go_enter Tryz.func55, Tryz.ntmps55
  go_wp2_with fail
  (with_reducible refine C.out.mono ?_)
  rintro e w1 ⟨rfl, rfl⟩
  simp only [Ho.face]
  go_wp2_with fail
  (with_reducible refine M.out.mono ?_)
  rintro e w2 ⟨rfl, ⟨n, rfl⟩⟩
  go_wp2
  go_ret
  exact ⟨rfl, ⟨_, rfl⟩⟩
set_option maxRecDepth 100000 in
theorem kkind_any (h : Kr w g o room es) : Calls Tryz.prog 55 #[.pointer (some ⟨g, 0, none⟩)] w fun e w' => e = .returned (.int .i64 (room : Int)) ∧ Still w w' := by
  cases o with
  | row r t => exact kkind_row h
  | board r v => exact kkind_board h
set_option maxRecDepth 100000 in
theorem kget_row {r t : Nat} (h : Kr w g (Ho.row r t) room es) (b : UInt8) : Calls Tryz.prog 73 #[.pointer (some ⟨g, 0, none⟩), .int .u8 (b.toNat : Int)] w fun e w' => e = .returned (.tuple #[ev (getE es b.toNat), .bool (hasE es b.toNat)]) ∧ Still w w' := by
  have C := Lib.hid (kwhere_any h)
  have M := Lib.hid (show Calls Tryz.prog 135 #[.pointer (some ⟨r, 0, none⟩), .int .u8 (b.toNat : Int)] w fun e w' => e = .returned (.tuple #[ev (getE es b.toNat), .bool (hasE es b.toNat)]) ∧ Still w w' from sget_any (Sm.rd h.is) b)
  have F := m_row_Get (some ⟨r, 0, none⟩)
  clear h
  go_enter Tryz.func73, Tryz.ntmps73
  go_wp2_with fail
  (with_reducible refine C.out.mono ?_)
  rintro e w1 ⟨rfl, rfl⟩
  simp only [Ho.face]
  go_wp2_with fail
  (with_reducible refine M.out.mono ?_)
  rintro e w2 ⟨rfl, ⟨n, rfl⟩⟩
  go_wp2
  go_ret2
  exact ⟨rfl, ⟨_, rfl⟩⟩
set_option maxRecDepth 100000 in
theorem kget_board {r : Nat} {v : Value} (h : Kr w g (Ho.board r v) room es) (b : UInt8) : Calls Tryz.prog 73 #[.pointer (some ⟨g, 0, none⟩), .int .u8 (b.toNat : Int)] w fun e w' => e = .returned (.tuple #[ev (getE es b.toNat), .bool (hasE es b.toNat)]) ∧ Still w w' := by
  have C := Lib.hid (kwhere_any h)
  have M := Lib.hid (show Calls Tryz.prog 153 #[.pointer (some ⟨r, 0, none⟩), .int .u8 (b.toNat : Int)] w fun e w' => e = .returned (.tuple #[ev (getE es b.toNat), .bool (hasE es b.toNat)]) ∧ Still w w' from h.is.2.elim fun _ q => wget_any q b)
  have F := m_board_Get (some ⟨r, 0, none⟩)
  clear h
  go_enter Tryz.func73, Tryz.ntmps73
  go_wp2_with fail
  (with_reducible refine C.out.mono ?_)
  rintro e w1 ⟨rfl, rfl⟩
  simp only [Ho.face]
  go_wp2_with fail
  (with_reducible refine M.out.mono ?_)
  rintro e w2 ⟨rfl, ⟨n, rfl⟩⟩
  go_wp2
  go_ret2
  exact ⟨rfl, ⟨_, rfl⟩⟩
set_option maxRecDepth 100000 in
theorem kget_any (h : Kr w g o room es) (b : UInt8) : Calls Tryz.prog 73 #[.pointer (some ⟨g, 0, none⟩), .int .u8 (b.toNat : Int)] w fun e w' => e = .returned (.tuple #[ev (getE es b.toNat), .bool (hasE es b.toNat)]) ∧ Still w w' := by
  cases o with
  | row r t => exact kget_row h b
  | board r v => exact kget_board h b
set_option maxRecDepth 100000 in
theorem knext_row {r t : Nat} (h : Kr w g (Ho.row r t) room es) (a : Int) (ha : -9223372036854775808 ≤ a) : Calls Tryz.prog 65 #[.pointer (some ⟨g, 0, none⟩), .int .i64 a] w fun e w' => e = .returned (entV (nextE es a)) ∧ Still w w' := by
  have C := Lib.hid (kwhere_any h)
  have M := Lib.hid (show Calls Tryz.prog 137 #[.pointer (some ⟨r, 0, none⟩), .int .i64 a] w fun e w' => e = .returned (entV (nextE es a)) ∧ Still w w' from snext_any (Sm.rd h.is) a ha)
  obtain ⟨s, hs⟩ : ∃ s, s = (nextE es a) := ⟨_, rfl⟩
  rw [← hs] at M ⊢
  clear hs
  have F := m_row_Next (some ⟨r, 0, none⟩)
  clear h
  go_enter Tryz.func65, Tryz.ntmps65
  go_wp2_with fail
  (with_reducible refine C.out.mono ?_)
  rintro e w1 ⟨rfl, rfl⟩
  simp only [Ho.face]
  go_wp2_with fail
  (with_reducible refine M.out.mono ?_)
  rintro e w2 ⟨rfl, ⟨n, rfl⟩⟩
  simp only [entV]
  go_wp2
  go_ret3
  exact ⟨rfl, ⟨_, rfl⟩⟩
set_option maxRecDepth 100000 in
theorem knext_board {r : Nat} {v : Value} (h : Kr w g (Ho.board r v) room es) (a : Int) (ha : -9223372036854775808 ≤ a) : Calls Tryz.prog 65 #[.pointer (some ⟨g, 0, none⟩), .int .i64 a] w fun e w' => e = .returned (entV (nextE es a)) ∧ Still w w' := by
  have C := Lib.hid (kwhere_any h)
  have M := Lib.hid (show Calls Tryz.prog 155 #[.pointer (some ⟨r, 0, none⟩), .int .i64 a] w fun e w' => e = .returned (entV (nextE es a)) ∧ Still w w' from h.is.2.elim fun _ q => wnext_any q a ha)
  obtain ⟨s, hs⟩ : ∃ s, s = (nextE es a) := ⟨_, rfl⟩
  rw [← hs] at M ⊢
  clear hs
  have F := m_board_Next (some ⟨r, 0, none⟩)
  clear h
  go_enter Tryz.func65, Tryz.ntmps65
  go_wp2_with fail
  (with_reducible refine C.out.mono ?_)
  rintro e w1 ⟨rfl, rfl⟩
  simp only [Ho.face]
  go_wp2_with fail
  (with_reducible refine M.out.mono ?_)
  rintro e w2 ⟨rfl, ⟨n, rfl⟩⟩
  simp only [entV]
  go_wp2
  go_ret3
  exact ⟨rfl, ⟨_, rfl⟩⟩
set_option maxRecDepth 100000 in
theorem knext_any (h : Kr w g o room es) (a : Int) (ha : -9223372036854775808 ≤ a) : Calls Tryz.prog 65 #[.pointer (some ⟨g, 0, none⟩), .int .i64 a] w fun e w' => e = .returned (entV (nextE es a)) ∧ Still w w' := by
  cases o with
  | row r t => exact knext_row h a ha
  | board r v => exact knext_board h a ha
end
end Go.Proofs.YtajpipaooaemdaaGreatDoor

namespace Go.Proofs.YtajpipaooaemdaaGreatDoor
open Go.RowKit

/-- The kind of so many, of any number. -/
def kindZ (n : Int) : Int := if n < 0 then 0 else if n ≤ 4 then 4 else if n ≤ 16 then 16 else if n ≤ 48 then 48 else if n ≤ 256 then 256 else 0
theorem kindZ_nat {n : Nat} (h : n ≤ 256) : kindZ (n : Int) = (kindN n : Int) := by
  unfold kindZ kindN
  repeat' split
  all_goals omega
theorem kindN_is (n : Nat) : kindN n = 4 ∨ kindN n = 16 ∨ kindN n = 48 ∨ kindN n = 256 := by
  unfold kindN
  repeat' split
  all_goals omega
theorem kindN_le {n : Nat} (h : n ≤ 256) : n ≤ kindN n := by
  unfold kindN
  repeat' split
  all_goals omega
/-- A row if at most 16, a board else. -/
theorem kindN_two (n : Nat) : (kindN n = 4 ∨ kindN n = 16) ∨ (kindN n = 48 ∨ kindN n = 256) := by
  rcases kindN_is n with h | h | h | h <;> omega

section
variable (w : World)
set_option maxRecDepth 100000 in
theorem kindof_any (n : Int) : Calls Tryz.prog 102 #[.int .i64 n] w fun e w' => e = .returned (.int .i64 (kindZ n)) ∧ w' = w := by
  have E := Lib.hid (show kindZ n = kindZ n from rfl)
  obtain ⟨z, hz⟩ : ∃ z, z = kindZ n := ⟨_, rfl⟩
  rw [← hz]
  have HZ := Lib.hid hz
  clear hz E
  by_cases h0 : n < 0
  · have hz : z = 0 := by rw [HZ.out]; unfold kindZ; rw [if_pos h0]
    subst hz
    clear HZ
    go_enter Tryz.func102, Tryz.ntmps102
    go_wp2
    go_ret
    exact ⟨rfl, rfl⟩
  · have i0 : ∀ w, (Instr.index 166 (.agg #[.int .i64 4, .int .i64 16, .int .i64 48, .int .i64 256]) (.int .i64 0)).run Tryz.prog w = .ok (.int .i64 4) w := fun _ => by kernel_rfl
    have i1 : ∀ w, (Instr.index 166 (.agg #[.int .i64 4, .int .i64 16, .int .i64 48, .int .i64 256]) (.int .i64 1)).run Tryz.prog w = .ok (.int .i64 16) w := fun _ => by kernel_rfl
    have i2 : ∀ w, (Instr.index 166 (.agg #[.int .i64 4, .int .i64 16, .int .i64 48, .int .i64 256]) (.int .i64 2)).run Tryz.prog w = .ok (.int .i64 48) w := fun _ => by kernel_rfl
    have i3 : ∀ w, (Instr.index 166 (.agg #[.int .i64 4, .int .i64 16, .int .i64 48, .int .i64 256]) (.int .i64 3)).run Tryz.prog w = .ok (.int .i64 256) w := fun _ => by kernel_rfl
    go_enter Tryz.func102, Tryz.ntmps102
    go_wp2_with fail
    go_loopw [8] (fun s8 wr => ∃ k : Nat, k ≤ 4 ∧ s8 = .int .i64 (k : Int) ∧ wr = w ∧ Hid ((k = 0 ∨ 4 < n) ∧ (k ≤ 1 ∨ 16 < n) ∧ (k ≤ 2 ∨ 48 < n) ∧ (k ≤ 3 ∨ 256 < n))) (fun s8 _ => 4 - (intOf s8).toNat)
    case atStart => exact ⟨0, by omega, rfl, rfl, Lib.hid (by omega)⟩
    case round =>
      obtain ⟨k, hk, rfl, rfl, HK⟩ := hrel
      rcases (show k = 0 ∨ k = 1 ∨ k = 2 ∨ k = 3 ∨ k = 4 by omega) with rfl | rfl | rfl | rfl | rfl
      case inl =>
        by_cases h1 : n ≤ 4
        · have hz : z = 4 := by rw [HZ.out]; unfold kindZ; rw [if_neg (by omega), if_pos h1]
          subst hz
          go_wp2
          go_ret
          exact ⟨rfl, rfl⟩
        · go_wp2
          exact ⟨⟨1, by omega, by first | rfl | go_num, by trivial, Lib.hid (by omega)⟩, by simp [intOf]⟩
      case inr.inl =>
        by_cases h1 : n ≤ 16
        · have hz : z = 16 := by rw [HZ.out]; unfold kindZ; have := HK.out; rw [if_neg (by omega), if_neg (by omega), if_pos h1]
          subst hz
          go_wp2
          go_ret
          exact ⟨rfl, rfl⟩
        · go_wp2
          exact ⟨⟨2, by omega, by first | rfl | go_num, by trivial, Lib.hid (by have := HK.out; omega)⟩, by simp [intOf]⟩
      case inr.inr.inl =>
        by_cases h1 : n ≤ 48
        · have hz : z = 48 := by rw [HZ.out]; unfold kindZ; have := HK.out; rw [if_neg (by omega), if_neg (by omega), if_neg (by omega), if_pos h1]
          subst hz
          go_wp2
          go_ret
          exact ⟨rfl, rfl⟩
        · go_wp2
          exact ⟨⟨3, by omega, by first | rfl | go_num, by trivial, Lib.hid (by have := HK.out; omega)⟩, by simp [intOf]⟩
      case inr.inr.inr.inl =>
        by_cases h1 : n ≤ 256
        · have hz : z = 256 := by rw [HZ.out]; unfold kindZ; have := HK.out; rw [if_neg (by omega), if_neg (by omega), if_neg (by omega), if_neg (by omega), if_pos h1]
          subst hz
          go_wp2
          go_ret
          exact ⟨rfl, rfl⟩
        · go_wp2
          exact ⟨⟨4, by omega, by first | rfl | go_num, by trivial, Lib.hid (by have := HK.out; omega)⟩, by simp [intOf]⟩
      case inr.inr.inr.inr =>
        have hz : z = 0 := by rw [HZ.out]; unfold kindZ; have := HK.out; rw [if_neg (by omega), if_neg (by omega), if_neg (by omega), if_neg (by omega), if_neg (by omega)]
        subst hz
        go_wp2
        go_ret
        exact ⟨rfl, rfl⟩
set_option maxRecDepth 100000 in
theorem rkindof_any (n : Int) : Calls Tryz.prog 79 #[.int .i64 n] w fun e w' => e = .returned (.int .i64 (kindZ n)) ∧ w' = w := by
  by_cases h0 : n < 0
  · have hz : kindZ n = 0 := by unfold kindZ; rw [if_pos h0]
    rw [hz]
    go_enter Tryz.func79, Tryz.ntmps79
    go_wp2
    go_ret
    exact ⟨rfl, rfl⟩
  by_cases h5 : 256 < n
  · have hz : kindZ n = 0 := by unfold kindZ; rw [if_neg (by omega), if_neg (by omega), if_neg (by omega), if_neg (by omega), if_neg (by omega)]
    rw [hz]
    go_enter Tryz.func79, Tryz.ntmps79
    go_wp2
    go_ret
    exact ⟨rfl, rfl⟩
  by_cases h1 : n ≤ 4
  · have hz : kindZ n = 4 := by unfold kindZ; rw [if_neg h0, if_pos h1]
    rw [hz]
    go_enter Tryz.func79, Tryz.ntmps79
    go_wp2
    go_ret
    exact ⟨rfl, rfl⟩
  by_cases h2 : n ≤ 16
  · have hz : kindZ n = 16 := by unfold kindZ; rw [if_neg h0, if_neg h1, if_pos h2]
    rw [hz]
    go_enter Tryz.func79, Tryz.ntmps79
    go_wp2
    go_ret
    exact ⟨rfl, rfl⟩
  by_cases h3 : n ≤ 48
  · have hz : kindZ n = 48 := by unfold kindZ; rw [if_neg h0, if_neg h1, if_neg h2, if_pos h3]
    rw [hz]
    go_enter Tryz.func79, Tryz.ntmps79
    go_wp2
    go_ret
    exact ⟨rfl, rfl⟩
  · have hz : kindZ n = 256 := by unfold kindZ; rw [if_neg h0, if_neg h1, if_neg h2, if_neg h3, if_pos (by omega)]
    rw [hz]
    go_enter Tryz.func79, Tryz.ntmps79
    go_wp2
    go_ret
    exact ⟨rfl, rfl⟩
end
end Go.Proofs.YtajpipaooaemdaaGreatDoor
