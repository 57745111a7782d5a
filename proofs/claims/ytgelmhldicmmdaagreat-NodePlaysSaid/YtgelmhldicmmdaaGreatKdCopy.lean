/-
  Package kids: Copy of kids that New gave; nobody's.
-/
import Derived.Test.YtgelmhldicmmdaaGreatKdDrop
import Derived.Deep.RegionHeld3
namespace Go.Proofs.YtgelmhldicmmdaaGreat
open Go.RowKit

/-- What Copy leaves: other kids of the same, all their blocks new. -/
def KcPost (w : World) (room : Nat) (es : List Ent) (e : Ending) (w' : World) : Prop :=
  ∃ (g' : Nat) (o' : Ho), e = .returned (.pointer (some ⟨g', 0, none⟩)) ∧ Kr w' g' o' room es ∧ (∀ i, o'.all g' i → w.heap.size ≤ i) ∧ Below w.heap.size w w'
theorem KcPost.of {w w1 : World} {room : Nat} {es : List Ent} {o' : Ho} (h : o'.Is w1 room es) (hn : ∀ i, o'.D i → w.heap.size ≤ i) (hb : Below w.heap.size w w1) :
    KcPost w room es (.returned (.pointer (some ⟨w1.heap.size, 0, none⟩))) (w1.alloc (.cells o'.two.toArray 108)) := by
  have b2 : Below w1.heap.size w1 (w1.alloc (.cells o'.two.toArray 108)) := (Below.refl _ _).alloc (Nat.le_refl _) _
  refine ⟨w1.heap.size, o', rfl, ⟨Blk.new w1 _ _, h.below b2, fun q => ?_⟩, fun i hi => ?_, hb.trans (b2.mono hb.size)⟩
  · have := h.lt q; omega
  · rcases hi with rfl | hi
    · exact hb.size
    · exact hn i hi
set_option maxRecDepth 100000 in
theorem wcopy_two {w : World} {g room : Nat} {es : List Ent} {v : Value} (h : (room = 48 ∨ room = 256) ∧ ∃ u, Bd w g v room es u) : Calls Tryz.prog 68 #[.pointer (some ⟨g, 0, none⟩)] w fun e w' =>
    ∃ v' u, e = .returned (.pointer (some ⟨w.heap.size, 0, none⟩)) ∧ Bd w' w.heap.size v' room es u ∧ Below w.heap.size w w' ∧ ∀ i, v'.ownBlock = some i → w.heap.size < i := by
  obtain ⟨hr, u, h⟩ := h
  refine (wcopy_any h (by omega)).mono ?_
  rintro e w' ⟨v', q1, q2, q3, q4⟩
  exact ⟨v', u, q1, q2, q3, q4⟩
section
variable {w : World} {g room : Nat} {es : List Ent}
set_option maxRecDepth 100000 in
set_option maxHeartbeats 1000000 in
theorem kcopy_row {r t : Nat} (h : Kr w g (.row r t) room es) : Calls Tryz.prog 45 #[.pointer (some ⟨g, 0, none⟩)] w fun e w' => KcPost w room es e w' := by
  have h0 : w.cell? ⟨g, 0, none⟩ = some (.pointer (some ⟨r, 0, none⟩)) := by rw [Lst.at_ h.two]; rfl
  have h1 : w.cell? ⟨g, 1, none⟩ = some (.pointer none) := by rw [Lst.at_ h.two]; rfl
  have KP := Lib.hid (fun (W : World) (hb : Below w.heap.size w W) => show W.cell? ⟨g, 0, none⟩ = some (.pointer (some ⟨r, 0, none⟩)) ∧ W.cell? ⟨g, 1, none⟩ = some (.pointer none) from ⟨by rw [Lst.at_ (h.below hb).two]; rfl, by rw [Lst.at_ (h.below hb).two]; rfl⟩)
  have HS := Lib.hid (fun (W : World) (hb : Below w.heap.size w W) => show Sm W r t room es from (h.below hb).is)
  have HP := Lib.hid (fun (W w1 : World) (hb : Below w.heap.size w W) (q1 : Sm w1 W.heap.size (W.heap.size + 1) room es) (q2 : Below W.heap.size W w1) => show KcPost w room es (.returned (.pointer (some ⟨w1.heap.size, 0, none⟩))) (w1.alloc (.cells #[.pointer (some ⟨W.heap.size, 0, none⟩), .pointer none] 108)) from
    KcPost.of (o' := .row W.heap.size (W.heap.size + 1)) q1 (fun i hi => by have := hb.size; rcases hi with q | q <;> omega) (hb.trans (q2.mono hb.size)))
  clear h
  go_enter Tryz.func45, Tryz.ntmps45
  go_wp2_with fail
  go_region_held3 (fun w' => w'.cell? ⟨g, 0, none⟩ = some (.pointer (some ⟨r, 0, none⟩)) ∧ w'.cell? ⟨g, 1, none⟩ = some (.pointer none))
    (first
    | exact KP.out _ hb1
    | exact KP.out _ (hb1.alloc hb1.size _)
    | exact KP.out _ (Below.refl _ _).drew
    | exact KP.out _ (Below.refl _ _))
    (first
    | (go_at_call 67; (with_reducible refine (scopy_any (HS.out _ (Below.refl _ _).drew)).mono ?_); rintro e v1 ⟨rfl, s1, c1⟩; have hb1 := (Below.refl _ _).drew.trans c1)
    | (go_at_call 67; (with_reducible refine (scopy_any (HS.out _ (Below.refl _ _))).mono ?_); rintro e v1 ⟨rfl, s1, c1⟩; have hb1 := (Below.refl _ _).trans c1)
    | (go_at_call 68; (with_reducible refine (wcopy_nil _).mono ?_); rintro e v2 ⟨rfl, rfl⟩))
  all_goals
    have P := Lib.hid (show KcPost w room es (.returned (.pointer (some ⟨v2.heap.size, 0, none⟩))) (v2.alloc (.cells #[.pointer (some ⟨w.heap.size, 0, none⟩), .pointer none] 108)) from by
      first
      | exact HP.out w.drew _ (Below.refl _ _).drew s1 c1
      | exact HP.out w _ (Below.refl _ _) s1 c1)
    clear HP s1 c1
    go_wp2
    go_ret
    exact P.out
set_option maxRecDepth 100000 in
set_option maxHeartbeats 1000000 in
theorem kcopy_board {r : Nat} {v : Value} (h : Kr w g (.board r v) room es) : Calls Tryz.prog 45 #[.pointer (some ⟨g, 0, none⟩)] w fun e w' => KcPost w room es e w' := by
  have h0 : w.cell? ⟨g, 0, none⟩ = some (.pointer none) := by rw [Lst.at_ h.two]; rfl
  have h1 : w.cell? ⟨g, 1, none⟩ = some (.pointer (some ⟨r, 0, none⟩)) := by rw [Lst.at_ h.two]; rfl
  have hR := h.is.1
  have KP := Lib.hid (fun (W : World) (hb : Below w.heap.size w W) => show W.cell? ⟨g, 0, none⟩ = some (.pointer none) ∧ W.cell? ⟨g, 1, none⟩ = some (.pointer (some ⟨r, 0, none⟩)) from ⟨by rw [Lst.at_ (h.below hb).two]; rfl, by rw [Lst.at_ (h.below hb).two]; rfl⟩)
  have HS := Lib.hid (fun (W : World) (hb : Below w.heap.size w W) => show (room = 48 ∨ room = 256) ∧ ∃ u, Bd W r v room es u from (h.below hb).is)
  have HP := Lib.hid (fun (W w1 : World) (hb : Below w.heap.size w W) (v' : Value) (u : Nat) (q1 : Bd w1 W.heap.size v' room es u) (q2 : Below W.heap.size W w1) (q3 : ∀ i, v'.ownBlock = some i → W.heap.size < i) => show KcPost w room es (.returned (.pointer (some ⟨w1.heap.size, 0, none⟩))) (w1.alloc (.cells #[.pointer none, .pointer (some ⟨W.heap.size, 0, none⟩)] 108)) from
    KcPost.of (o' := .board W.heap.size v') ⟨hR, u, q1⟩ (fun i hi => by
      have := hb.size
      rcases hi with q | q
      · omega
      · have := q3 i q; omega) (hb.trans (q2.mono hb.size)))
  clear h
  go_enter Tryz.func45, Tryz.ntmps45
  go_wp2_with fail
  go_region_held3 (fun w' => w'.cell? ⟨g, 0, none⟩ = some (.pointer none) ∧ w'.cell? ⟨g, 1, none⟩ = some (.pointer (some ⟨r, 0, none⟩)))
    (first
    | exact KP.out _ hb1
    | exact KP.out _ (hb1.alloc hb1.size _)
    | exact KP.out _ (Below.refl _ _).drew
    | exact KP.out _ (Below.refl _ _))
    (first
    | (go_at_call 68; (with_reducible refine (wcopy_two (HS.out _ (Below.refl _ _).drew)).mono ?_); rintro e v1 ⟨v', u', rfl, s1, c1, c2⟩; have hb1 := (Below.refl _ _).drew.trans c1)
    | (go_at_call 68; (with_reducible refine (wcopy_two (HS.out _ (Below.refl _ _))).mono ?_); rintro e v1 ⟨v', u', rfl, s1, c1, c2⟩; have hb1 := (Below.refl _ _).trans c1)
    | (go_at_call 67; (with_reducible refine (scopy_nil _).mono ?_); rintro e v2 ⟨rfl, rfl⟩))
  all_goals
    have P := Lib.hid (show KcPost w room es (.returned (.pointer (some ⟨v1.heap.size, 0, none⟩))) (v1.alloc (.cells #[.pointer none, .pointer (some ⟨w.heap.size, 0, none⟩)] 108)) from by
      first
      | exact HP.out w.drew _ (Below.refl _ _).drew _ _ s1 c1 c2
      | exact HP.out w _ (Below.refl _ _) _ _ s1 c1 c2)
    clear HP s1 c1 c2
    go_wp2
    go_ret
    exact P.out
set_option maxRecDepth 100000 in
theorem kcopy_any {o : Ho} (h : Kr w g o room es) : Calls Tryz.prog 45 #[.pointer (some ⟨g, 0, none⟩)] w fun e w' => KcPost w room es e w' := by
  cases o with
  | row r t => exact kcopy_row h
  | board r v => exact kcopy_board h
end

/-- Nobody's kids: what is asked of them, a row that is not there answers. -/
def NoK (p : Value) (w : World) : Prop := Calls Tryz.prog 65 #[p] w fun e w' => e = .returned (.iface 105 (.pointer none)) ∧ w' = w
set_option maxRecDepth 100000 in
theorem NoK.nil (w : World) : NoK (.pointer none) w := by
  unfold NoK
  go_enter Tryz.func65, Tryz.ntmps65
  go_wp2
  go_ret
  exact ⟨rfl, rfl⟩
set_option maxRecDepth 100000 in
theorem NoK.zero {w : World} {g : Nat} (h : Lst w g [.pointer none, .pointer none]) : NoK (.pointer (some ⟨g, 0, none⟩)) w := by
  have h0 : w.cell? ⟨g, 0, none⟩ = some (.pointer none) := by rw [Lst.at_ h]; rfl
  have h1 : w.cell? ⟨g, 1, none⟩ = some (.pointer none) := by rw [Lst.at_ h]; rfl
  clear h
  unfold NoK
  go_enter Tryz.func65, Tryz.ntmps65
  go_wp2
  go_ret
  exact ⟨rfl, rfl⟩
section
variable {w : World} {p : Value}
set_option maxRecDepth 100000 in
theorem klen_no (h : NoK p w) : Calls Tryz.prog 58 #[p] w fun e w' => e = .returned (.int .i64 0) ∧ w' = w := by
  have C := Lib.hid h
  have M := Lib.hid (show Calls Tryz.prog 98 #[.pointer none] w fun e w' => e = .returned (.int .i64 0) ∧ w' = w from len_nil _)
  have F := m_row_Len none
  clear h
  unfold NoK at C
  go_enter Tryz.func58, Tryz.ntmps58
  go_wp2_with fail
  (with_reducible refine C.out.mono ?_)
  rintro e w1 ⟨rfl, rfl⟩
  go_wp2_with fail
  (with_reducible refine M.out.mono ?_)
  rintro e w2 ⟨rfl, rfl⟩
  go_wp2
  go_ret
  exact ⟨rfl, rfl⟩
set_option maxRecDepth 100000 in
theorem kkind_no (h : NoK p w) : Calls Tryz.prog 44 #[p] w fun e w' => e = .returned (.int .i64 0) ∧ w' = w := by
  have C := Lib.hid h
  have M := Lib.hid (show Calls Tryz.prog 101 #[.pointer none] w fun e w' => e = .returned (.int .i64 0) ∧ w' = w from room_nil _)
  have F := m_row_Room none
  clear h
  unfold NoK at C
  go_enter Tryz.func44, Tryz.ntmps44
  go_wp2_with fail
  (with_reducible refine C.out.mono ?_)
  rintro e w1 ⟨rfl, rfl⟩
  go_wp2_with fail
  (with_reducible refine M.out.mono ?_)
  rintro e w2 ⟨rfl, rfl⟩
  go_wp2
  go_ret
  exact ⟨rfl, rfl⟩
set_option maxRecDepth 100000 in
theorem kget_no (h : NoK p w) (b : Int) : Calls Tryz.prog 43 #[p, .int .u8 b] w fun e w' => e = .returned (.tuple #[.pointer none, .bool false]) ∧ w' = w := by
  have C := Lib.hid h
  have M := Lib.hid (show Calls Tryz.prog 97 #[.pointer none, .int .u8 b] w fun e w' => e = .returned (.tuple #[.pointer none, .bool false]) ∧ w' = w from sget_nil _ b)
  have F := m_row_Get none
  clear h
  unfold NoK at C
  go_enter Tryz.func43, Tryz.ntmps43
  go_wp2_with fail
  (with_reducible refine C.out.mono ?_)
  rintro e w1 ⟨rfl, rfl⟩
  go_wp2_with fail
  (with_reducible refine M.out.mono ?_)
  rintro e w2 ⟨rfl, rfl⟩
  go_wp2
  go_ret2
  exact ⟨rfl, rfl⟩
set_option maxRecDepth 100000 in
theorem kset_no (h : NoK p w) (b : Int) (x : Th) : Calls Tryz.prog 40 #[p, .int .u8 b, .pointer x] w fun e w' => e = .returned (.int .i64 2) ∧ w' = w := by
  have C := Lib.hid h
  have M := Lib.hid (show Calls Tryz.prog 102 #[.pointer none, .int .u8 b, .pointer x] w fun e w' => e = .returned (.int .i64 2) ∧ w' = w from sset_nil _ b x)
  have F := m_row_Set none
  clear h
  unfold NoK at C
  go_enter Tryz.func40, Tryz.ntmps40
  go_wp2_with fail
  (with_reducible refine C.out.mono ?_)
  rintro e w1 ⟨rfl, rfl⟩
  go_wp2_with fail
  (with_reducible refine M.out.mono ?_)
  rintro e w2 ⟨rfl, rfl⟩
  go_wp2
  go_ret
  exact ⟨rfl, rfl⟩
set_option maxRecDepth 100000 in
theorem kdrop_no (h : NoK p w) (b : Int) : Calls Tryz.prog 69 #[p, .int .u8 b] w fun e w' => e = .returned (.int .i64 2) ∧ w' = w := by
  have C := Lib.hid h
  have M := Lib.hid (show Calls Tryz.prog 96 #[.pointer none, .int .u8 b] w fun e w' => e = .returned (.int .i64 2) ∧ w' = w from sdrop_nil _ b)
  have F := m_row_Drop none
  clear h
  unfold NoK at C
  go_enter Tryz.func69, Tryz.ntmps69
  go_wp2_with fail
  (with_reducible refine C.out.mono ?_)
  rintro e w1 ⟨rfl, rfl⟩
  go_wp2_with fail
  (with_reducible refine M.out.mono ?_)
  rintro e w2 ⟨rfl, rfl⟩
  go_wp2
  go_ret
  exact ⟨rfl, rfl⟩
set_option maxRecDepth 100000 in
theorem knext_no (h : NoK p w) (a : Int) : Calls Tryz.prog 55 #[p, .int .i64 a] w fun e w' => e = .returned (.tuple #[.int .u8 0, .pointer none, .bool false]) ∧ w' = w := by
  have C := Lib.hid h
  have M := Lib.hid (show Calls Tryz.prog 99 #[.pointer none, .int .i64 a] w fun e w' => e = .returned (.tuple #[.int .u8 0, .pointer none, .bool false]) ∧ w' = w from snext_nil _ a)
  have F := m_row_Next none
  clear h
  unfold NoK at C
  go_enter Tryz.func55, Tryz.ntmps55
  go_wp2_with fail
  (with_reducible refine C.out.mono ?_)
  rintro e w1 ⟨rfl, rfl⟩
  go_wp2_with fail
  (with_reducible refine M.out.mono ?_)
  rintro e w2 ⟨rfl, rfl⟩
  go_wp2
  go_ret3
  exact ⟨rfl, rfl⟩
set_option maxRecDepth 100000 in
theorem kprev_no (h : NoK p w) (a : Int) : Calls Tryz.prog 56 #[p, .int .i64 a] w fun e w' => e = .returned (.tuple #[.int .u8 0, .pointer none, .bool false]) ∧ w' = w := by
  have C := Lib.hid h
  have M := Lib.hid (show Calls Tryz.prog 100 #[.pointer none, .int .i64 a] w fun e w' => e = .returned (.tuple #[.int .u8 0, .pointer none, .bool false]) ∧ w' = w from sprev_nil _ a)
  have F := m_row_Prev none
  clear h
  unfold NoK at C
  go_enter Tryz.func56, Tryz.ntmps56
  go_wp2_with fail
  (with_reducible refine C.out.mono ?_)
  rintro e w1 ⟨rfl, rfl⟩
  go_wp2_with fail
  (with_reducible refine M.out.mono ?_)
  rintro e w2 ⟨rfl, rfl⟩
  go_wp2
  go_ret3
  exact ⟨rfl, rfl⟩
set_option maxRecDepth 100000 in
theorem kcopy_nil (w : World) : Calls Tryz.prog 45 #[.pointer none] w fun e w' => e = .returned (.pointer none) ∧ w' = w := by
  go_enter Tryz.func45, Tryz.ntmps45
  go_wp2
  go_ret
  exact ⟨rfl, rfl⟩
set_option maxRecDepth 100000 in
theorem kcopy_zero {g : Nat} (h : Lst w g [.pointer none, .pointer none]) : Calls Tryz.prog 45 #[.pointer (some ⟨g, 0, none⟩)] w fun e w' => e = .returned (.pointer none) ∧ w' = w := by
  have h0 : w.cell? ⟨g, 0, none⟩ = some (.pointer none) := by rw [Lst.at_ h]; rfl
  have h1 : w.cell? ⟨g, 1, none⟩ = some (.pointer none) := by rw [Lst.at_ h]; rfl
  clear h
  go_enter Tryz.func45, Tryz.ntmps45
  go_wp2
  go_ret
  exact ⟨rfl, rfl⟩
end
end Go.Proofs.YtgelmhldicmmdaaGreat
