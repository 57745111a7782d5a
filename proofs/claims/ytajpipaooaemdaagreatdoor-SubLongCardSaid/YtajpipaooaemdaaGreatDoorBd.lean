/-
  Words for a board in memory: its block's cells, the row of its things; what is read of it, and what keeps it.
  Package wide: what a board tells, and what nobody's tells.
  Package wide: Next and Prev, of a board and of nobody's.
  Package wide: New; a place that is free; Set, Drop, and nobody's.
  Package wide: Set and Drop of a board that New gave.
  Package wide: Copy of a board that New gave.
-/
import Derived.Test.YtajpipaooaemdaaGreatDoorSm
import Derived.Maps.AppendAt
import Derived.Test.YtajpipaooaemdaaGreatDoorChecked
import Derived.BigRegion
import Derived.Deep.CutBlock
import Derived.Deep.DeepCutAuto
namespace Go.Proofs.YtajpipaooaemdaaGreatDoor
open Go.RowKit

/-- One cell of a board's block. -/
def bdC (room : Nat) (tb : Nat → Nat) (v : Value) (lf : Nat → Nat) (k : Nat) (i : Nat) : Value :=
  if i = 0 then .int .i64 (room : Int) else if i < 257 then .int .u16 (tb (i - 1) : Int) else if i = 257 then v else if i < 514 then .int .u8 (lf (i - 258) : Int) else .int .i64 (k : Int)
/-- The cells of a board's block: the room, the table of the places, the things' slice, the places that are free, and how many. -/
def bdL (room : Nat) (tb : Nat → Nat) (v : Value) (lf : Nat → Nat) (k : Nat) : List Value := (List.range 515).map (bdC room tb v lf k)
section
variable {room k : Nat} {tb lf : Nat → Nat} {v : Value}
theorem bdL_length : (bdL room tb v lf k).length = 515 := by rw [bdL, List.length_map, List.length_range]
theorem bdL_at {i : Nat} (hi : i < 515) : (bdL room tb v lf k)[i]? = some (bdC room tb v lf k i) := by
  rw [bdL, List.getElem?_map, List.getElem?_range hi]; rfl
theorem bdL_room : (bdL room tb v lf k)[0]? = some (.int .i64 (room : Int)) := bdL_at (by omega)
theorem bdL_table {b : Nat} (hb : b < 256) : (bdL room tb v lf k)[1 + b]? = some (.int .u16 (tb b : Int)) := by
  rw [bdL_at (by omega), bdC, if_neg (by omega), if_pos (by omega), show 1 + b - 1 = b by omega]
theorem bdL_things : (bdL room tb v lf k)[257]? = some v := by rw [bdL_at (by omega)]; rfl
theorem bdL_left {i : Nat} (hi : i < 256) : (bdL room tb v lf k)[258 + i]? = some (.int .u8 (lf i : Int)) := by
  rw [bdL_at (by omega), bdC, if_neg (by omega), if_neg (by omega), if_neg (by omega), if_pos (by omega), show 258 + i - 258 = i by omega]
theorem bdL_lefts : (bdL room tb v lf k)[514]? = some (.int .i64 (k : Int)) := by rw [bdL_at (by omega)]; rfl
theorem bdL_one (hv : v.oneCell' = true) : ∀ x ∈ bdL room tb v lf k, x.oneCell' = true := by
  intro x hx
  obtain ⟨i, _, rfl⟩ := List.mem_map.1 hx
  unfold bdC
  split
  · rfl
  · split
    · rfl
    · split
      · exact hv
      · split <;> rfl
theorem map_set_range {n : Nat} {f f' : Nat → Value} {i : Nat} {x : Value} (hi : f' i = x) (hf : ∀ j, j < n → j ≠ i → f' j = f j) : ((List.range n).map f).set i x = (List.range n).map f' := by
  apply List.ext_getElem?
  intro j
  rw [List.getElem?_set]
  by_cases hj : j < n
  · rw [List.getElem?_map, List.getElem?_map, List.getElem?_range hj]
    by_cases e : i = j
    · subst e
      rw [if_pos rfl, if_pos (by simpa using hj)]
      simp [hi]
    · rw [if_neg e]
      simp [hf j hj (fun q => e q.symm)]
  · rw [List.getElem?_eq_none (l := List.map f' _) (by simp; omega)]
    split
    · rename_i e; subst e; rw [if_neg (by simpa using hj)]
    · exact List.getElem?_eq_none (by simp; omega)
theorem bdL_setT {b n : Nat} (hb : b < 256) : (bdL room tb v lf k).set (1 + b) (.int .u16 (n : Int)) = bdL room (turnN tb b n) v lf k := by
  refine map_set_range ?_ (fun j _ hj => ?_)
  · rw [bdC, if_neg (by omega), if_pos (by omega), show 1 + b - 1 = b by omega, turn_at]
  · unfold bdC
    split
    · rfl
    · split
      · rw [turn_far _ _ (by omega)]
      · rfl
theorem bdL_setV {v' : Value} : (bdL room tb v lf k).set 257 v' = bdL room tb v' lf k := by
  refine map_set_range rfl (fun j _ hj => ?_)
  unfold bdC
  split
  · rfl
  · split
    · rfl
    · first | rfl | (rw [if_neg hj, if_neg hj])
theorem bdL_setK {n : Nat} : (bdL room tb v lf k).set 514 (.int .i64 (n : Int)) = bdL room tb v lf n := by
  refine map_set_range rfl (fun j hj hne => ?_)
  unfold bdC
  split
  · rfl
  · split
    · rfl
    · split
      · rfl
      · rw [if_pos (by omega), if_pos (by omega)]
end

/-- Block g is a board of this room that holds es, with u places; its things lie in the row of v. -/
structure BdIs (w : World) (g : Nat) (v : Value) (room : Nat) (es : List Ent) (u k : Nat) (tb lf : Nat → Nat) (vs : List Th) : Prop where
  pl : Pl room es k tb lf vs
  len : vs.length = u
  head : Lst w g (bdL room tb v lf k)
  own_ : w.ownsRow 0 28 1 v u (vs.map ev)
  ne : v.ownBlock ≠ some g
def Bd (w : World) (g : Nat) (v : Value) (room : Nat) (es : List Ent) (u : Nat) : Prop := ∃ k tb lf vs, BdIs w g v room es u k tb lf vs
/-- The board's own blocks. -/
def bdD (g : Nat) (v : Value) : Nat → Prop := fun i => i = g ∨ v.ownBlock = some i

theorem Kept.owns {D : Nat → Prop} {w w' : World} {e : TypeId} {v : Value} {n : Nat} {xs : List Value} (hk : Kept D w w') (h : w.ownsRow 0 e 1 v n xs) (hD : ∀ i, v.ownBlock = some i → ¬ D i) : w'.ownsRow 0 e 1 v n xs := by
  refine ⟨h.1, ?_⟩
  rcases h.2 with hn | ⟨g, cap, cur, rfl, hb, hgg, rest⟩
  · exact .inl hn
  · refine .inr ⟨g, cap, cur, rfl, hb, ?_, rest⟩
    rw [hk.block g (Array.getElem?_eq_some_iff.1 hgg).1 (hD g rfl)]
    exact hgg
theorem Kept.of_grown {w w' : World} {row : Option Nat} (h : w.grownBy w' row) : Kept (fun i => row = some i) w w' :=
  ⟨h.os, h.tape, h.output, h.size, fun k hk hd => h.block k hk (fun e => hd e.symm)⟩
theorem owns_one {w : World} {e : TypeId} {v : Value} {n : Nat} {xs : List Value} (h : w.ownsRow 0 e 1 v n xs) : v.oneCell' = true := by
  rcases h.2 with ⟨rfl, _⟩ | ⟨g, cap, cur, rfl, _⟩ <;> rfl
theorem owns_slice {w : World} {e : TypeId} {v : Value} {n : Nat} {xs : List Value} (h : w.ownsRow 0 e 1 v n xs) : ∃ A c, v = .slice A n c := by
  rcases h.2 with ⟨rfl, rfl⟩ | ⟨g, cap, cur, rfl, _⟩
  · exact ⟨_, _, rfl⟩
  · exact ⟨_, _, rfl⟩

section
variable {w w' : World} {g : Nat} {v : Value} {room u k : Nat} {es : List Ent} {tb lf : Nat → Nat} {vs : List Th}
theorem BdIs.kept (h : BdIs w g v room es u k tb lf vs) {D : Nat → Prop} (hk : Kept D w w') (hD : ∀ i, bdD g v i → ¬ D i) : BdIs w' g v room es u k tb lf vs :=
  ⟨h.pl, h.len, hk.blk h.head (hD g (.inl rfl)), hk.owns h.own_ (fun i hi => hD i (.inr hi)), h.ne⟩
theorem Bd.kept (h : Bd w g v room es u) {D : Nat → Prop} (hk : Kept D w w') (hD : ∀ i, bdD g v i → ¬ D i) : Bd w' g v room es u := by
  obtain ⟨k, tb, lf, vs, h⟩ := h; exact ⟨k, tb, lf, vs, h.kept hk hD⟩
theorem Bd.below (h : Bd w g v room es u) (hk : Below w.heap.size w w') : Bd w' g v room es u := h.kept (D := fun _ => False) (Kept.of_below hk) (fun _ _ q => q)
theorem Bd.drewN (h : Bd w g v room es u) (n : Nat) : Bd (w.drewN n) g v room es u := h.kept (D := fun _ => False) ((Kept.refl _ _).drewN n) (fun _ _ q => q)
theorem Bd.still (h : Bd w g v room es u) (hs : Still w w') : Bd w' g v room es u := by obtain ⟨n, rfl⟩ := hs; exact h.drewN n
theorem Bd.lt (h : Bd w g v room es u) : g < w.heap.size ∧ ∀ i, v.ownBlock = some i → i < w.heap.size := by
  obtain ⟨k, tb, lf, vs, h⟩ := h
  exact ⟨Blk.lt h.head, fun i hi => (h.own_.lt i hi).2⟩
theorem Bd.up (h : Bd w g v room es u) : Up es := by obtain ⟨k, tb, lf, vs, h⟩ := h; exact h.pl.up
theorem Bd.few (h : Bd w g v room es u) : es.length ≤ u ∧ u ≤ room ∧ room ≤ 256 := by
  obtain ⟨k, tb, lf, vs, h⟩ := h
  have := h.pl.sum
  have := h.pl.most
  have := h.pl.cap
  have := h.len
  omega
theorem Bd.room_ (h : Bd w g v room es u) : w.cell? ⟨g, 0, none⟩ = some (.int .i64 (room : Int)) := by
  obtain ⟨k, tb, lf, vs, h⟩ := h
  rw [Lst.at_ h.head, bdL_room]
theorem Bd.slice_ (h : Bd w g v room es u) : ∃ A c, v = .slice A u c ∧ w.cell? ⟨g, 257, none⟩ = some (.slice A u c) := by
  obtain ⟨k, tb, lf, vs, h⟩ := h
  obtain ⟨A, c, rfl⟩ := owns_slice h.own_
  exact ⟨A, c, rfl, by rw [Lst.at_ h.head, bdL_things]⟩
theorem Bd.lefts_ (h : Bd w g v room es u) : ∃ k, es.length + k = u ∧ w.cell? ⟨g, 514, none⟩ = some (.int .i64 (k : Int)) := by
  obtain ⟨k, tb, lf, vs, h⟩ := h
  exact ⟨k, by rw [← h.len]; exact h.pl.sum, by rw [Lst.at_ h.head, bdL_lefts]⟩
theorem Bd.table_no (h : Bd w g v room es u) {b : Nat} (hb : b < 256) (hh : hasE es b = false) : w.cell? ⟨g, 1 + b, none⟩ = some (.int .u16 0) := by
  obtain ⟨k, tb, lf, vs, h⟩ := h
  rw [Lst.at_ h.head, bdL_table hb, h.pl.no b hb hh]; rfl
/-- The place of one that is held. -/
structure At_ (w : World) (g : Nat) (v : Value) (u b : Nat) (x : Th) (t c q : Nat) : Prop where
  v_ : v = .slice (some ⟨t, 0, none⟩) u c
  lt_ : q < u
  few_ : u ≤ 256
  tb_ : w.cell? ⟨g, 1 + b, none⟩ = some (.int .u16 ((q : Int) + 1))
  sl_ : w.cell? ⟨g, 257, none⟩ = some (.slice (some ⟨t, 0, none⟩) u c)
  th_ : w.cell? ⟨t, q, none⟩ = some (ev x)
  fz_ : w.frozen? ⟨t, q, none⟩ = false
theorem BdIs.at_ (h : BdIs w g v room es u k tb lf vs) {b : Nat} (hb : b < 256) (hh : hasE es b = true) : ∃ t c q, tb b = q + 1 ∧ At_ w g v u b (getE es b) t c q := by
  obtain ⟨q, e, hq⟩ := h.pl.yes b hb hh
  have hlt := (List.getElem?_eq_some_iff.1 hq).1
  rw [h.len] at hlt
  obtain ⟨t, c, rfl, _, _⟩ := h.own_.form (by omega)
  have hm := h.pl.most
  have hc := h.pl.cap
  have hl := h.len
  refine ⟨t, c, q, e, rfl, hlt, by omega, ?_, by rw [Lst.at_ h.head, bdL_things], ?_, h.own_.frozenAt q⟩
  · rw [Lst.at_ h.head, bdL_table hb, e]; rfl
  · rw [h.own_.cellAt q (by omega), List.getElem?_map, hq]; rfl
theorem Bd.at_ (h : Bd w g v room es u) {b : Nat} (hb : b < 256) (hh : hasE es b = true) : ∃ t c q, At_ w g v u b (getE es b) t c q := by
  obtain ⟨k, tb, lf, vs, h⟩ := h
  obtain ⟨t, c, q, _, h⟩ := h.at_ hb hh
  exact ⟨t, c, q, h⟩
theorem Bd.first (hr : room ≤ 256) (h : Lst w g (bdL room (fun _ => 0) (.slice none 0 0) (fun _ => 0) 0)) : Bd w g (.slice none 0 0) room [] 0 :=
  ⟨0, _, _, [], Pl.first hr, rfl, h, World.ownsRow_nil _ _ _ _, by simp [Value.ownBlock]⟩
end
end Go.Proofs.YtajpipaooaemdaaGreatDoor

namespace Go.Proofs.YtajpipaooaemdaaGreatDoor
open Go.RowKit

section
variable (w : World)
set_option maxRecDepth 100000 in
theorem wnobodys_nil : Calls Tryz.prog 107 #[.pointer none] w fun e w' => e = .returned (.bool true) ∧ w' = w := by
  go_enter Tryz.func107, Tryz.ntmps107
  go_wp2
  go_ret
  exact ⟨rfl, rfl⟩
set_option maxRecDepth 100000 in
theorem wholds_nil (b : Int) : Calls Tryz.prog 159 #[.pointer none, .int .u8 b] w fun e w' => e = .returned (.bool false) ∧ w' = w := by
  go_enter Tryz.func159, Tryz.ntmps159
  go_wp2
  go_ret
  exact ⟨rfl, rfl⟩
set_option maxRecDepth 100000 in
theorem wget_nil (b : Int) : Calls Tryz.prog 153 #[.pointer none, .int .u8 b] w fun e w' => e = .returned (.tuple #[ev none, .bool false]) ∧ w' = w := by
  go_enter Tryz.func153, Tryz.ntmps153
  go_wp2_with (go_at_call 159; refine (wholds_nil _ _).mono ?_; rintro e w' ⟨rfl, rfl⟩)
  go_ret2
  exact ⟨rfl, rfl⟩
end

section
variable {w : World} {g room u : Nat} {es : List Ent} {v : Value}
set_option maxRecDepth 100000 in
theorem wlen_any (h : Bd w g v room es u) : Calls Tryz.prog 154 #[.pointer (some ⟨g, 0, none⟩)] w fun e w' => e = .returned (.int .i64 (es.length : Int)) ∧ Still w w' := by
  obtain ⟨A, c, rfl, h1⟩ := h.slice_
  obtain ⟨k, hk, h2⟩ := h.lefts_
  have hf := h.few
  have E := Lib.hid (show (u : Int) - (k : Int) = (es.length : Int) by omega)
  have ew : IntKind.i64.wrap ((u : Int) - (k : Int)) = (u : Int) - (k : Int) := by rw [IntKind.wrap_i64]; omega
  clear h hk hf
  go_enter Tryz.func154, Tryz.ntmps154
  go_wp2_with fail
  go_quiet (fail)
  go_wp2
  go_ret
  exact ⟨by rw [← E.out]; rfl, ⟨_, rfl⟩⟩
set_option maxRecDepth 100000 in
theorem wroom_any (h : Bd w g v room es u) : Calls Tryz.prog 157 #[.pointer (some ⟨g, 0, none⟩)] w fun e w' => e = .returned (.int .i64 (room : Int)) ∧ w' = w := by
  have h1 := h.room_
  clear h
  go_enter Tryz.func157, Tryz.ntmps157
  go_wp2
  go_ret
  exact ⟨rfl, rfl⟩
set_option maxRecDepth 100000 in
theorem wnobodys_any (h : Bd w g v room es u) : Calls Tryz.prog 107 #[.pointer (some ⟨g, 0, none⟩)] w fun e w' => e = .returned (.bool (decide (room = 0))) ∧ w' = w := by
  have h1 := h.room_
  clear h
  go_enter Tryz.func107, Tryz.ntmps107
  go_wp2
  go_ret
  exact ⟨by by_cases q : room = 0 <;> simp [q], rfl⟩
set_option maxRecDepth 100000 in
theorem wholds_any (h : Bd w g v room es u) (b : UInt8) : Calls Tryz.prog 159 #[.pointer (some ⟨g, 0, none⟩), .int .u8 (b.toNat : Int)] w fun e w' => e = .returned (.bool (hasE es b.toNat)) ∧ w' = w := by
  have hb := b.toNat_lt
  have hbi : (b.toNat : Int) < 256 := by omega
  cases hh : hasE es b.toNat with
  | false =>
    have h1 := h.table_no hb hh
    clear h hh
    go_enter Tryz.func159, Tryz.ntmps159
    go_wp2
    go_ret
    exact ⟨rfl, rfl⟩
  | true =>
    obtain ⟨t, c, q, ha⟩ := h.at_ hb hh
    have h1 := ha.tb_
    have hz : ((q : Int) + 1 = 0) = False := by rw [eq_iff_iff]; constructor <;> intro hq <;> first | omega | cases hq
    clear h hh ha
    go_enter Tryz.func159, Tryz.ntmps159
    go_wp2
    go_ret
    exact ⟨by first | rfl | simp [hz], rfl⟩
set_option maxRecDepth 100000 in
theorem wget_any (h : Bd w g v room es u) (b : UInt8) : Calls Tryz.prog 153 #[.pointer (some ⟨g, 0, none⟩), .int .u8 (b.toNat : Int)] w fun e w' => e = .returned (.tuple #[ev (getE es b.toNat), .bool (hasE es b.toNat)]) ∧ Still w w' := by
  have C := Lib.hid (wholds_any h b)
  have hb := b.toNat_lt
  have hbi : (b.toNat : Int) < 256 := by omega
  cases hh : hasE es b.toNat with
  | false =>
    rw [hh] at C
    have E := Lib.hid (get_no hh)
    clear h hh
    go_enter Tryz.func153, Tryz.ntmps153
    go_wp2_with fail
    (with_reducible refine C.out.mono ?_)
    rintro e w' ⟨rfl, rfl⟩
    go_wp2
    go_ret2
    exact ⟨by rw [E.out]; rfl, Still.refl _⟩
  | true =>
    rw [hh] at C
    obtain ⟨t, c, q, ha⟩ := h.at_ hb hh
    have h1 := ha.tb_
    have h2 := ha.sl_
    have h3 := ha.th_
    have h4 := ha.lt_
    have h5 := ha.few_
    have ew : IntKind.u16.wrap ((q : Int) + 1 - 1) = (q : Int) := by rw [show ((q : Int) + 1 - 1) = (q : Int) by omega, IntKind.wrap_u16]; omega
    have e2 : (q : Int) + 1 - 1 = (q : Int) := by omega
    have ew2 : IntKind.u16.wrap (q : Int) = (q : Int) := by rw [IntKind.wrap_u16]; omega
    generalize getE es b.toNat = x at h3
    clear h hh ha
    go_enter Tryz.func153, Tryz.ntmps153
    go_wp2_with fail
    (with_reducible refine C.out.mono ?_)
    rintro e w' ⟨rfl, rfl⟩
    go_wp2_with fail
    go_quiet (fail)
    go_wp2
    go_ret2
    exact ⟨rfl, ⟨_, rfl⟩⟩
end
end Go.Proofs.YtajpipaooaemdaaGreatDoor

namespace Go.Proofs.YtajpipaooaemdaaGreatDoor
open Go.RowKit

/-- What Get tells is what es holds. -/
def GetIs (p : Value) (es : List Ent) (w : World) : Prop := ∀ (c : Nat), c < 256 → Calls Tryz.prog 153 #[p, .int .u8 (c : Int)] w fun e w' => e = .returned (.tuple #[ev (getE es c), .bool (hasE es c)]) ∧ Still w w'
theorem GetIs.of {w : World} {g room u : Nat} {es : List Ent} {v : Value} (h : Bd w g v room es u) : GetIs (.pointer (some ⟨g, 0, none⟩)) es w := fun c hc => by
  have e : (UInt8.ofNat c).toNat = c := by rw [UInt8.toNat_ofNat']; omega
  have := wget_any h (UInt8.ofNat c)
  rwa [e] at this
theorem GetIs.nil (w : World) : GetIs (.pointer none) [] w := fun c _ => (wget_nil w (c : Int)).mono fun _ _ ⟨h1, h2⟩ => ⟨h1, by rw [h2]; exact Still.refl _⟩

section
variable {w : World} {p : Value} {es : List Ent}
set_option maxRecDepth 100000 in
theorem wnext_of (h : Up es) (G : ∀ n, GetIs p es (w.drewN n)) (a : Int) (ha : -9223372036854775808 ≤ a) : Calls Tryz.prog 155 #[p, .int .i64 a] w fun e w' => e = .returned (entV (nextE es a)) ∧ Still w w' := by
  have HC := Lib.hid G
  have HU := Lib.hid h
  have H0 := Lib.hid (show ∃ c : Nat, max a 0 = (c : Int) ∧ ((256 ≤ c ∧ nextE es a = none) ∨ (c < 256 ∧ nx es c = nextE es a)) by
    refine ⟨a.toNat, by omega, ?_⟩
    rw [next_nx]
    by_cases q : 255 < a
    · left; exact ⟨by omega, by rw [if_pos q]⟩
    · right; exact ⟨by omega, by rw [if_neg q]⟩)
  clear G h
  generalize nextE es a = ne at H0 ⊢
  by_cases hz : a ≤ 0
  all_goals
    go_enter Tryz.func155, Tryz.ntmps155
    go_wp2_with fail
  all_goals
    go_loopw [7] (fun s7 wr => ∃ c : Nat, s7 = .int .i64 c ∧ Hid ((256 ≤ c ∧ ne = none) ∨ (c < 256 ∧ nx es c = ne)) ∧ Still w wr) (fun s7 _ => 256 - (intOf s7).toNat)
    case atStart =>
      obtain ⟨c, hc, hn⟩ := H0.out
      exact ⟨c, by congr 1; omega, hn, Still.refl _⟩
    case round =>
      obtain ⟨c, rfl, HN, q, rfl⟩ := hrel
      by_cases h1 : c < 256
      · have hc1 := Lib.hid (HC.out q c h1)
        have hn : nx es c = ne := by rcases HN.out with q | q; omega; exact q.2
        have ew : IntKind.u8.wrap (c : Int) = (c : Int) := by rw [IntKind.wrap_u8]; omega
        have h2 : (c : Int) ≤ 255 := by omega
        cases hh : hasE es c with
        | true =>
          rw [hh] at hc1
          have E := Lib.hid (nx_yes hh)
          rw [hn] at E
          clear hh hn
          go_wp2_with fail
          (with_reducible refine hc1.out.mono ?_)
          rintro e w' ⟨rfl, hs⟩
          have HS := Lib.hid hs
          clear hs
          go_wp2
          go_ret3
          obtain ⟨e, he, h1, h2⟩ := E.out
          refine ⟨?_, ((Still.refl _).step _).trans HS.out⟩
          subst he
          show _ = Ending.returned (.tuple #[.int .u8 ((e.1.toNat : Nat) : Int), .pointer e.2, .bool true])
          rw [h1, h2]
          rfl
        | false =>
          rw [hh] at hc1
          have E := Lib.hid (nx_not HU.out hh)
          have HNn := Lib.hid hn
          clear hh hn
          go_wp2_with fail
          (with_reducible refine hc1.out.mono ?_)
          rintro e w' ⟨rfl, hs⟩
          have HS := Lib.hid hs
          clear hs
          have ew2 : IntKind.i64.wrap ((c : Int) + 1) = (c : Int) + 1 := by rw [IntKind.wrap_i64]; omega
          go_wp2
          refine ⟨⟨c + 1, by go_num, ?_, ((Still.refl _).step _).trans HS.out⟩, by simp [intOf]; omega⟩
          by_cases q2 : c + 1 = 256
          · refine Lib.hid (.inl ⟨by omega, ?_⟩)
            rw [← HNn.out, ← E.out, q2]; exact nx_all es
          · exact Lib.hid (.inr ⟨by omega, by rw [E.out, HNn.out]⟩)
      · have hn : ne = none := by rcases HN.out with q | q; exact q.2; omega
        subst hn
        have h2 : ¬ ((c : Int) ≤ 255) := by omega
        go_wp2
        go_ret3
        exact ⟨rfl, ⟨_, rfl⟩⟩

end
section
variable {w : World} {g room u : Nat} {es : List Ent} {v : Value}
set_option maxRecDepth 100000 in
theorem wnext_any (h : Bd w g v room es u) (a : Int) (ha : -9223372036854775808 ≤ a) : Calls Tryz.prog 155 #[.pointer (some ⟨g, 0, none⟩), .int .i64 a] w fun e w' => e = .returned (entV (nextE es a)) ∧ Still w w' :=
  wnext_of h.up (fun n => GetIs.of (h.drewN n)) a ha
end
end Go.Proofs.YtajpipaooaemdaaGreatDoor

namespace Go.Proofs.YtajpipaooaemdaaGreatDoor
open Go.RowKit

section
variable (w : World)
set_option maxRecDepth 100000 in
theorem wcopy_nil : Calls Tryz.prog 95 #[.pointer none] w fun e w' => e = .returned (.pointer none) ∧ w' = w := by
  go_enter Tryz.func95, Tryz.ntmps95
  go_wp2_with (go_at_call 107; refine (wnobodys_nil _).mono ?_; rintro e w' ⟨rfl, rfl⟩)
  go_ret
  exact ⟨rfl, rfl⟩
end
section
variable {w : World} {g u : Nat} {es : List Ent} {v : Value}
end

set_option maxRecDepth 100000 in
theorem bd_built1 (room : Nat) : Tryz.prog.built 159 [(0, .int .i64 (room : Int))] = some (bdL room (fun _ => 0) (.slice none 0 0) (fun _ => 0) 0).toArray := by kernel_rfl
set_option maxRecDepth 100000 in
theorem bd_size : (Tryz.prog.info? 159).map (·.size) = some 515 := by kernel_rfl
set_option maxRecDepth 100000 in
theorem num_info : (Tryz.prog.info? 28).map (fun i => (i.zero, i.size, i.bytes)) = some (some (.pointer none), 1, 8) := by kernel_rfl

set_option maxRecDepth 100000 in
theorem wnew_yes (w : World) (room : Nat) (h : room = 48 ∨ room = 256) : Calls Tryz.prog 112 #[.int .i64 (room : Int)] w fun e w' =>
    e = .returned (.tuple #[.pointer (some ⟨w.heap.size, 0, none⟩), .int .i64 0]) ∧ Bd w' w.heap.size (.slice none 0 0) room [] 0 ∧ Below w.heap.size w w' := by
  have HB := Lib.hid (bd_built1 room)
  have HE := Lib.hid (show Bd (w.alloc (.cells (bdL room (fun _ => 0) (.slice none 0 0) (fun _ => 0) 0).toArray 159)) w.heap.size (.slice none 0 0) room [] 0 from Bd.first (by omega) (Blk.new w _ _))
  generalize (bdL room (fun _ => 0) (.slice none 0 0) (fun _ => 0) 0).toArray = cs at HB HE
  rcases h with rfl | rfl
  all_goals
    go_enter Tryz.func112, Tryz.ntmps112
    go_wp2_with (refine wpList_build_is rfl 159 #[(0, .tmp 10)] rfl [(0, .int .i64 _)] (by simp [Act.eval]) cs HB.out ?_)
    go_ret2
    exact ⟨rfl, HE.out, (Below.refl _ _).alloc (Nat.le_refl _) _⟩

/-- A place p that is free was found: it is the next byte's that comes in. -/
structure Fre (w w' : World) (g : Nat) (v v' : Value) (room : Nat) (es : List Ent) (u p : Nat) (k : Nat) (tb lf : Nat → Nat) (vs : List Th) : Prop where
  lt_ : p < vs.length
  most_ : vs.length ≤ 256
  head : Lst w' g (bdL room tb v' lf k)
  own_ : w'.ownsRow 0 28 1 v' vs.length (vs.map ev)
  ne : v'.ownBlock ≠ some g
  kept : Kept (bdD g v) w w'
  new : ∀ i, v'.ownBlock = some i → v.ownBlock = some i ∨ w.heap.size ≤ i
  used : vs.length ≤ max u (es.length + 1)
  pl : ∀ (b : UInt8) (x : Th), hasE es b.toNat = false → Pl room (setE es b x) k (turnN tb b.toNat (p + 1)) lf (vs.set p x)

def FrePost (w : World) (g : Nat) (v : Value) (room : Nat) (es : List Ent) (u : Nat) (e : Ending) (w' : World) : Prop :=
  ∃ (p k : Nat) (tb lf : Nat → Nat) (vs : List Th) (v' : Value), e = .returned (.int .i64 (p : Int)) ∧ Fre w w' g v v' room es u p k tb lf vs

theorem set_last {vs : List Th} (x : Th) : (vs ++ [none]).set vs.length x = vs ++ [x] := by
  rw [List.set_append_right _ _ (Nat.le_refl _), Nat.sub_self]; rfl

section
variable {w : World} {g room u : Nat} {es : List Ent} {v : Value}
set_option maxRecDepth 100000 in
theorem wfree_left {k : Nat} {tb lf : Nat → Nat} {vs : List Th} (h : BdIs w g v room es u (k + 1) tb lf vs) : Calls Tryz.prog 160 #[.pointer (some ⟨g, 0, none⟩)] w fun e w' => FrePost w g v room es u e w' := by
  have hf := h.pl.fre k (by omega)
  have hm := h.pl.most
  have hcap := h.pl.cap
  have hsum := h.pl.sum
  have hlen := h.len
  have hk : k < 256 := by omega
  have h1 : w.cell? ⟨g, 514, none⟩ = some (.int .i64 ((k + 1 : Nat) : Int)) := by rw [Lst.at_ h.head, bdL_lefts]
  have z1 : w.frozen? ⟨g, 514, none⟩ = false := Blk.fz h.head _
  have h2 : w.cell? ⟨g, 258 + k, none⟩ = some (.int .u8 (lf k : Int)) := by rw [Lst.at_ h.head, bdL_left hk]
  have HE := Lib.hid (fun q => show Fre w ((w.setCell ⟨g, 514, none⟩ (.int .i64 (k : Int))).drewN q) g v v room es u (lf k) k tb lf vs by
    have hL := Lst.set1 h.head 514 (.int .i64 (k : Int))
    rw [bdL_setK] at hL
    have hK : Kept (· = g) w (w.setCell ⟨g, 514, none⟩ (.int .i64 (k : Int))) := Kept.set_ _ _ _ rfl
    have hO := hK.owns h.own_ (fun i hi e => h.ne (by rw [hi, e]))
    have hK' : Kept (bdD g v) w (w.setCell ⟨g, 514, none⟩ (.int .i64 (k : Int))) := hK.mono (fun _ q => Or.inl q)
    exact ⟨hf.1, by omega, hL, by rw [hlen]; exact hO, h.ne, hK'.drewN q, fun i hi => Or.inl hi, by omega, fun b x hb => h.pl.set_left x hb⟩)
  have hp : lf k < 256 := by omega
  generalize hpp : lf k = p at h2 HE hp
  clear hpp h hf hsum hlen hm
  have e1 : ((k + 1 : Nat) : Int) = (k : Int) + 1 := by omega
  rw [e1] at h1
  have ew : IntKind.i64.wrap ((k : Int) + 1 - 1) = (k : Int) := by rw [show (k : Int) + 1 - 1 = (k : Int) by omega, IntKind.wrap_i64]; omega
  have ew1 : (k : Int) + 1 - 1 = (k : Int) := by omega
  have ew2 : IntKind.i64.wrap (k : Int) = (k : Int) := by rw [IntKind.wrap_i64]; omega
  have ew3 : IntKind.i64.wrap (p : Int) = (p : Int) := by rw [IntKind.wrap_i64]; omega
  have hki : (k : Int) < 256 := by omega
  have hpos : (0 : Int) < (k : Int) + 1 := by omega
  go_enter Tryz.func160, Tryz.ntmps160
  go_wp2_with fail
  go_quiet (fail)
  go_wp2
  go_ret
  exact ⟨p, k, tb, lf, vs, v, rfl, HE.out _⟩

set_option maxRecDepth 100000 in
theorem wfree_new {tb lf : Nat → Nat} {vs : List Th} (h : BdIs w g v room es u 0 tb lf vs) (hr : es.length < room) : Calls Tryz.prog 160 #[.pointer (some ⟨g, 0, none⟩)] w fun e w' => FrePost w g v room es u e w' := by
  have hm := h.pl.most
  have hcap := h.pl.cap
  have hsum := h.pl.sum
  have hlen := h.len
  obtain ⟨i0, hi0, hz0, hz1, hz2⟩ := info_parts num_info
  have h1 : w.cell? ⟨g, 514, none⟩ = some (.int .i64 0) := by rw [Lst.at_ h.head, bdL_lefts]; rfl
  have h2 : w.cell? ⟨g, 257, none⟩ = some v := by rw [Lst.at_ h.head, bdL_things]
  have HO := Lib.hid h.own_
  have hgl : g < w.heap.size := Blk.lt h.head
  have HN := Lib.hid h.ne
  have hu : u < 256 := by omega
  -- behind the append
  have HE := Lib.hid (fun (v' : Value) (w1 : World) (c : w1.ownsRow 0 28 1 v' (u + 1) (vs.map ev ++ [.pointer none])) (d : (w.alloc (.cells #[.pointer none] 28)).grownBy w1 v.ownBlock) (e : v'.ownBlock = v.ownBlock ∨ v'.ownBlock = some (w.alloc (.cells #[.pointer none] 28)).heap.size) =>
    show w1.cell? ⟨g, 257, none⟩ = some v ∧ w1.frozen? ⟨g, 257, none⟩ = false ∧ Fre w (w1.setCell ⟨g, 257, none⟩ v') g v v' room es u u 0 tb lf (vs ++ [none]) by
    have k1 : Kept (bdD g v) w w1 := ((Kept.of_below ((Below.refl _ _).alloc (Nat.le_refl _) _)).trans ((Kept.of_grown d).mono (fun i q => Or.inr q)))
    have k1' : Kept (fun i => v.ownBlock = some i) w w1 := ((Kept.of_below ((Below.refl _ _).alloc (Nat.le_refl _) _)).trans (Kept.of_grown d))
    have hh : Lst w1 g (bdL room tb v lf 0) := k1'.blk h.head h.ne
    have hne : v'.ownBlock ≠ some g := by
      rcases e with e | e
      · rw [e]; exact h.ne
      · rw [e]; intro q; injection q with q; rw [World.size_alloc] at q; omega
    have hK : Kept (· = g) w1 (w1.setCell ⟨g, 257, none⟩ v') := Kept.set_ _ _ _ rfl
    have hL := Lst.set1 hh 257 v'
    rw [bdL_setV] at hL
    refine ⟨by rw [Lst.at_ hh, bdL_things], Blk.fz hh _, by simp; omega, by simp; omega, hL, ?_, hne, k1.trans (hK.mono (fun _ q => Or.inl q)), fun i hi => ?_, by simp; omega, fun b x hb => ?_⟩
    · have hO := hK.owns c (fun i hi e => hne (by rw [hi, e]))
      rw [List.map_append, List.length_append, hlen]
      exact hO
    · rcases e with e | e
      · left; rw [← e]; exact hi
      · right; rw [e] at hi; injection hi with hi; rw [World.size_alloc] at hi; omega
    · have := h.pl.set_new x hb hr
      rw [← hlen, set_last]; exact this)
  have HL := Lib.hid (owns_slice h.own_)
  clear h hsum hlen hm
  go_enter Tryz.func160, Tryz.ntmps160
  go_wp2_with (at_builtin
               refine wpList_append_own_at _ rfl (.tmp 30) (.tmp 32) _ rfl 0 28 i0 (.pointer none) 1 8 Tryz.underlying152 hi0 hz0 hz1 hz2 rfl (by decide) v u (vs.map ev) rfl (HO.out.alloc _) ⟨w.heap.size, 0, none⟩ 1 1 [.pointer none] rfl rfl (cell_one_new _ _ _) (by intro u hu; simp at hu; subst hu; rfl) (by unfold maxLen; omega) (by omega) (by omega) ?_
               intro v' w1 ho1 hg1 _ hloc
               obtain ⟨c1, c2, c3⟩ := HE.out v' w1 ho1 hg1 hloc
               obtain ⟨A', cc, hv'⟩ := owns_slice ho1
               have HF := Lib.hid c3
               have HV' := Lib.hid hv'
               clear c3 ho1 hg1 hloc
               subst hv')
  go_ret
  exact ⟨u, 0, tb, lf, vs ++ [none], _, rfl, HF.out⟩

set_option maxRecDepth 100000 in
theorem wfree_any (h : Bd w g v room es u) (hr : es.length < room) : Calls Tryz.prog 160 #[.pointer (some ⟨g, 0, none⟩)] w fun e w' => FrePost w g v room es u e w' := by
  obtain ⟨k, tb, lf, vs, h⟩ := h
  cases k with
  | zero => exact wfree_new h hr
  | succ k => exact wfree_left h
end
end Go.Proofs.YtajpipaooaemdaaGreatDoor

namespace Go.Proofs.YtajpipaooaemdaaGreatDoor
open Go.RowKit

/-- What Set and Drop leave. -/
def BdPost (w w' : World) (g : Nat) (v : Value) (room : Nat) (es : List Ent) (u : Nat) : Prop :=
  ∃ (v' : Value) (u' : Nat), Bd w' g v' room es u' ∧ Kept (bdD g v) w w' ∧ (∀ i, v'.ownBlock = some i → v.ownBlock = some i ∨ w.heap.size ≤ i) ∧ u' ≤ max u es.length

section
variable {w : World} {g room u : Nat} {es : List Ent} {v : Value}
set_option maxRecDepth 100000 in
theorem wset_has (h : Bd w g v room es u) (hr : room ≠ 0) (b : UInt8) (x : Th) (hb : hasE es b.toNat = true) : Calls Tryz.prog 158 #[.pointer (some ⟨g, 0, none⟩), .int .u8 (b.toNat : Int), ev x] w fun e w' =>
    e = .returned (.int .i64 0) ∧ BdPost w w' g v room (setE es b x) u := by
  have C := Lib.hid (wnobodys_any h)
  rw [decide_eq_false hr] at C
  have D := Lib.hid (wholds_any h b)
  rw [hb] at D
  obtain ⟨k, tb, lf, vs, h⟩ := h
  have hlt := b.toNat_lt
  obtain ⟨t, c, q, hq, ha⟩ := h.at_ hlt hb
  have hv := ha.v_
  subst hv
  have h1 := ha.tb_
  have h2 := ha.sl_
  have h3 := ha.th_
  have h4 := ha.lt_
  have h5 := ha.few_
  have h6 := ha.fz_
  have HE := Lib.hid (fun n => show BdPost w ((w.drewN n).setCell ⟨t, q, none⟩ (ev x)) g (.slice (some ⟨t, 0, none⟩) u c) room (setE es b x) u by
    have hgt : g ≠ t := fun e => h.ne (by rw [e]; rfl)
    have hs := (World.ownsRow.stored (show (w.drewN n).ownsRow 0 28 1 (.slice (some ⟨t, 0, none⟩) u c) u (vs.map ev) from h.own_) q (ev x)).1
    have hK : Kept (· = t) w ((w.drewN n).setCell ⟨t, q, none⟩ (ev x)) := ((Kept.refl _ _).drewN n).trans (Kept.set_ _ _ _ rfl)
    refine ⟨_, u, ⟨k, tb, lf, vs.set q x, h.pl.set_has x hb hq, by rw [List.length_set]; exact h.len, hK.blk h.head hgt, ?_, h.ne⟩, hK.mono (fun i e => Or.inr (by rw [e]; rfl)), fun i hi => Or.inl hi, Nat.le_max_left _ _⟩
    rw [List.map_set]; exact hs)
  have ew : IntKind.u16.wrap ((q : Int) + 1 - 1) = (q : Int) := by rw [show ((q : Int) + 1 - 1) = (q : Int) by omega, IntKind.wrap_u16]; omega
  have e2 : (q : Int) + 1 - 1 = (q : Int) := by omega
  have ew2 : IntKind.u16.wrap (q : Int) = (q : Int) := by rw [IntKind.wrap_u16]; omega
  have hbi : (b.toNat : Int) < 256 := by omega
  have hqi : (q : Int) < (u : Int) := by omega
  generalize getE es b.toNat = y at h3
  clear h hb hr ha hq
  go_enter Tryz.func158, Tryz.ntmps158
  go_wp2_with fail
  (with_reducible refine C.out.mono ?_)
  rintro e w' ⟨rfl, rfl⟩
  go_wp2_with fail
  (with_reducible refine D.out.mono ?_)
  rintro e w' ⟨rfl, rfl⟩
  go_wp2_with fail
  go_region
  go_wp2
  go_ret
  exact ⟨rfl, HE.out _⟩

set_option maxRecDepth 100000 in
theorem wset_full (h : Bd w g v room es u) (hr : room ≠ 0) (b : UInt8) (x : Th) (hb : hasE es b.toNat = false) (hf : es.length = room) : Calls Tryz.prog 158 #[.pointer (some ⟨g, 0, none⟩), .int .u8 (b.toNat : Int), ev x] w fun e w' =>
    e = .returned (.int .i64 10) ∧ Still w w' := by
  have C := Lib.hid (wnobodys_any h)
  rw [decide_eq_false hr] at C
  have D := Lib.hid (wholds_any h b)
  rw [hb] at D
  have L := Lib.hid (fun n => wlen_any (h.drewN n))
  rw [hf] at L
  have h1 := h.room_
  clear h hb hr hf
  go_enter Tryz.func158, Tryz.ntmps158
  go_wp2_with fail
  (with_reducible refine C.out.mono ?_)
  rintro e w' ⟨rfl, rfl⟩
  go_wp2_with fail
  (with_reducible refine D.out.mono ?_)
  rintro e w' ⟨rfl, rfl⟩
  go_wp2_with fail
  go_quiet ((go_at_call 154; exact quiet_st1 (L.out _)))
  go_wp2
  go_ret
  exact ⟨rfl, ⟨_, rfl⟩⟩

set_option maxRecDepth 100000 in
theorem wset_more (h : Bd w g v room es u) (b : UInt8) (x : Th) (hb : hasE es b.toNat = false) (hf : es.length < room) : Calls Tryz.prog 158 #[.pointer (some ⟨g, 0, none⟩), .int .u8 (b.toNat : Int), ev x] w fun e w' =>
    e = .returned (.int .i64 0) ∧ BdPost w w' g v room (setE es b x) u := by
  have C := Lib.hid (wnobodys_any h)
  rw [decide_eq_false (show ¬ room = 0 by omega)] at C
  have D := Lib.hid (wholds_any h b)
  rw [hb] at D
  have L := Lib.hid (fun n => wlen_any (h.drewN n))
  have F := Lib.hid (fun n => wfree_any (h.drewN n) hf)
  have hcap := h.few.2.2
  have h1 := h.room_
  have hbi : (b.toNat : Int) < 256 := by have := b.toNat_lt; omega
  have hlt := b.toNat_lt
  have HL := Lib.hid (show (setE es b x).length = es.length + 1 by rw [set_length, if_neg (by rw [hb]; simp)])
  have HB := Lib.hid hb
  clear h hb
  generalize hn : es.length = n at L hf
  have HN := Lib.hid hn
  have hne : ((n : Int) = (room : Int)) = False := by rw [eq_iff_iff]; constructor <;> intro hq <;> first | omega | cases hq
  have hne2 : ((n : Int) == (room : Int)) = false := by simpa using hne
  clear hn
  go_enter Tryz.func158, Tryz.ntmps158
  go_wp2_with fail
  (with_reducible refine C.out.mono ?_)
  rintro e w' ⟨rfl, rfl⟩
  go_wp2_with fail
  (with_reducible refine D.out.mono ?_)
  rintro e w' ⟨rfl, rfl⟩
  go_wp2_with fail
  go_quiet ((go_at_call 154; exact quiet_st1 (L.out _)))
  go_wp2_with fail
  (with_reducible refine (F.out _).mono ?_)
  rintro e w1 ⟨p, k, tb, lf, vs, v', rfl, hF⟩
  have hp := hF.lt_
  have hvl := hF.most_
  obtain ⟨t, c, hv, _, _⟩ := hF.own_.form (by omega)
  subst hv
  have hne : g ≠ t := fun e => hF.ne (by rw [e]; rfl)
  have c1 : w1.cell? ⟨g, 257, none⟩ = some (.slice (some ⟨t, 0, none⟩) vs.length c) := by rw [Lst.at_ hF.head, bdL_things]
  obtain ⟨y, hy⟩ : ∃ y, w1.cell? ⟨t, p, none⟩ = some y := by
    rw [hF.own_.cellAt p (by omega), List.getElem?_map, List.getElem?_eq_getElem hp]; exact ⟨_, rfl⟩
  have z2 : w1.frozen? ⟨t, p, none⟩ = false := hF.own_.frozenAt p
  have hK2 : Kept (· = t) w1 (w1.setCell ⟨t, p, none⟩ (ev x)) := Kept.set_ _ _ _ rfl
  have hh2 := hK2.blk hF.head hne
  have c2 : (w1.setCell ⟨t, p, none⟩ (ev x)).cell? ⟨g, 1 + b.toNat, none⟩ = some (.int .u16 (tb b.toNat : Int)) := by rw [Lst.at_ hh2, bdL_table hlt]
  have z3 : (w1.setCell ⟨t, p, none⟩ (ev x)).frozen? ⟨g, 1 + b.toNat, none⟩ = false := Blk.fz hh2 _
  have HE := Lib.hid (show BdPost w' ((w1.setCell ⟨t, p, none⟩ (ev x)).setCell ⟨g, 1 + b.toNat, none⟩ (.int .u16 ((p : Int) + 1))) g v room (setE es b x) u by
    have hO2 := (World.ownsRow.stored hF.own_ p (ev x)).1
    have hK3 : Kept (· = g) (w1.setCell ⟨t, p, none⟩ (ev x)) ((w1.setCell ⟨t, p, none⟩ (ev x)).setCell ⟨g, 1 + b.toNat, none⟩ (.int .u16 ((p : Int) + 1))) := Kept.set_ _ _ _ rfl
    have hL := Lst.set1 hh2 (1 + b.toNat) (.int .u16 ((p + 1 : Nat) : Int))
    rw [bdL_setT hlt, show ((p + 1 : Nat) : Int) = (p : Int) + 1 by omega] at hL
    have hO3 := hK3.owns hO2 (fun i hi e => hF.ne (by rw [← e]; exact hi))
    have kA := (((Kept.refl (fun i => bdD g v i ∨ i = t) w').drewN _).trans (hF.kept.mono (D' := fun i => bdD g v i ∨ i = t) (fun i q => Or.inl q))).trans ((hK2.mono (D' := fun i => bdD g v i ∨ i = t) (fun i q => Or.inr q)).trans (hK3.mono (fun i q => Or.inl (Or.inl q))))
    refine ⟨_, vs.length, ⟨k, turnN tb b.toNat (p + 1), lf, vs.set p x, hF.pl b x HB.out, by rw [List.length_set], hL, by rw [List.map_set]; exact hO3, hF.ne⟩, kA.less (fun i hi q => ?_), fun i hi => hF.new i hi, ?_⟩
    · rcases q with q | q
      · exact q
      · rcases hF.new t rfl with e | e
        · rw [q]; exact Or.inr e
        · exact absurd hi (by have e' : w'.heap.size ≤ t := e; omega)
    · have := hF.used; have := HL.out; omega)
  have ew : IntKind.i64.wrap ((p : Int) + 1) = (p : Int) + 1 := by rw [IntKind.wrap_i64]; omega
  have ew2 : IntKind.u16.wrap ((p : Int) + 1) = (p : Int) + 1 := by rw [IntKind.wrap_u16]; omega
  have hpi : (p : Int) < (vs.length : Int) := by omega
  clear hF hh2 hK2
  go_wp2
  go_ret
  exact ⟨rfl, HE.out⟩

set_option maxRecDepth 100000 in
theorem wset_any (h : Bd w g v room es u) (hr : room ≠ 0) (b : UInt8) (x : Th) (z : Int) (hz : z = (b.toNat : Int)) : Calls Tryz.prog 158 #[.pointer (some ⟨g, 0, none⟩), .int .u8 z, ev x] w fun e w' =>
    e = .returned (.int .i64 (setN room es b)) ∧ BdPost w w' g v room (setR room es b x) u := by
  subst hz
  cases hb : hasE es b.toNat with
  | true =>
    refine (wset_has h hr b x hb).mono ?_
    rintro e w' ⟨rfl, h1⟩
    exact ⟨by simp [setN, hb], by simpa [setR, hb] using h1⟩
  | false =>
    by_cases hf : es.length = room
    · refine (wset_full h hr b x hb hf).mono ?_
      rintro e w' ⟨rfl, hs⟩
      refine ⟨by simp [setN, hb, hf], ?_⟩
      rw [setR, if_pos ⟨hb, hf⟩]
      exact ⟨v, u, h.still hs, Kept.still hs, fun i hi => Or.inl hi, Nat.le_max_left _ _⟩
    · refine (wset_more h b x hb (by have := h.few; omega)).mono ?_
      rintro e w' ⟨rfl, h1⟩
      exact ⟨by simp [setN, hf], by simpa [setR, hf] using h1⟩
end
end Go.Proofs.YtajpipaooaemdaaGreatDoor

namespace Go.Proofs.YtajpipaooaemdaaGreatDoor
open Go.RowKit

set_option maxRecDepth 100000 in
theorem cln_no (ad : Addr) (n c : Nat) (W : World) : (binOp .eql 152 (.slice (some ad) n c) (.slice none 0 0)).run Tryz.prog W = .ok (.bool false) W := by kernel_rfl
set_option maxRecDepth 100000 in
theorem cln_yes (W : World) : (binOp .eql 152 (.slice none 0 0) (.slice none 0 0)).run Tryz.prog W = .ok (.bool true) W := by kernel_rfl

/-- What Clone leaves. -/
structure Cln (w w' : World) (v' : Value) (u : Nat) (vs : List Th) : Prop where
  own_ : w'.ownsRow 0 28 1 v' u (vs.map ev)
  below : Below w.heap.size w w'
  new : ∀ i, v'.ownBlock = some i → w.heap.size ≤ i
def ClnPost (w : World) (u : Nat) (vs : List Th) (e : Ending) (w' : World) : Prop := ∃ v', e = .returned v' ∧ Cln w w' v' u vs

set_option maxRecDepth 100000 in
theorem wclone_any {w : World} {v : Value} {u : Nat} {vs : List Th} (h : w.ownsRow 0 28 1 v u (vs.map ev)) (hu : u ≤ 256) : Calls Tryz.prog 108 #[v] w fun e w' => ClnPost w u vs e w' := by
  rcases h.2 with ⟨rfl, rfl⟩ | ⟨t, c, cur, rfl, _⟩
  · have hnil := cln_yes
    go_enter Tryz.func108, Tryz.ntmps108
    go_wp2
    go_ret
    exact ⟨_, rfl, h, Below.refl _ _, fun i hi => by simp [Value.ownBlock] at hi⟩
  · obtain ⟨i0, hi0, hz0, hz1, hz2⟩ := info_parts num_info
    have hlen : (vs.map ev).length = u * 1 := h.1
    have hE : (w.alloc (.cells #[] 28)).ownsRow 0 28 1 (.slice (some ⟨w.heap.size, 0, none⟩) 0 0) 0 [] := World.ownsRow_made w #[] 0 (by omega) (by unfold maxLen; omega) (by simp)
    have HE := Lib.hid hE
    have hC : ∀ j x, (vs.map ev)[j]? = some x → (w.alloc (.cells #[] 28)).cell? ((⟨t, 0, none⟩ : Addr).add j) = some x := (h.alloc (.cells #[] 28)).cells rfl
    have HC := Lib.hid hC
    clear hE hC h
    have hnil := cln_no ⟨t, 0, none⟩ u c
    go_enter Tryz.func108, Tryz.ntmps108
    go_wp2_with (at_builtin
                 refine wpList_append_own_at _ rfl (.tmp 5) (.tmp 6) _ rfl 0 28 i0 (.pointer none) 1 8 Tryz.underlying152 hi0 hz0 hz1 hz2 rfl (by decide) (.slice (some ⟨w.heap.size, 0, none⟩) 0 0) 0 [] rfl HE.out ⟨t, 0, none⟩ u c (vs.map ev) rfl hlen HC.out (fun x hx => by obtain ⟨y, _, rfl⟩ := List.mem_map.1 hx; rfl) (by unfold maxLen; omega) (by omega) (by omega) ?_
                 intro v' w1 ho1 hg1 _ hloc
                 have HF := Lib.hid (show Cln w w1 v' u vs from by
                   refine ⟨?_, ?_, fun i hi => ?_⟩
                   · rw [Nat.zero_add, List.nil_append] at ho1; exact ho1
                   · have ka := (Kept.of_below (D := fun i => w.heap.size ≤ i) ((Below.refl w.heap.size w).alloc (Nat.le_refl _) (.cells #[] 28))).trans ((Kept.of_grown hg1).mono (fun i q => by simp [Value.ownBlock] at q; omega))
                     exact ka.below (Nat.le_refl _) (fun i q => q)
                   · rcases hloc with e | e
                     · rw [e] at hi; simp [Value.ownBlock] at hi; omega
                     · rw [e] at hi; injection hi with hi; rw [World.size_alloc] at hi; omega)
                 clear ho1 hg1 hloc)
    go_ret
    exact ⟨_, rfl, HF.out⟩

set_option maxRecDepth 100000 in
theorem bd_zero : (Tryz.prog.info? 159).map (·.zero) = some (some (.agg (bdL 0 (fun _ => 0) (.slice none 0 0) (fun _ => 0) 0).toArray)) := by kernel_rfl

/-- What Copy leaves. -/
def CpyPost (w : World) (room : Nat) (es : List Ent) (u : Nat) (e : Ending) (w' : World) : Prop :=
  ∃ v', e = .returned (.pointer (some ⟨w.heap.size, 0, none⟩)) ∧ Bd w' w.heap.size v' room es u ∧ Below w.heap.size w w' ∧ ∀ i, v'.ownBlock = some i → w.heap.size < i

set_option maxHeartbeats 1000000 in
set_option maxRecDepth 100000 in
theorem wcopy_any {w : World} {g room u : Nat} {es : List Ent} {v : Value} (h : Bd w g v room es u) (hr : room ≠ 0) : Calls Tryz.prog 95 #[.pointer (some ⟨g, 0, none⟩)] w fun e w' => CpyPost w room es u e w' := by
  have C := Lib.hid (wnobodys_any h)
  rw [decide_eq_false hr] at C
  have hfew := h.few
  obtain ⟨k, tb, lf, vs, h⟩ := h
  have hgl : g < w.heap.size := Blk.lt h.head
  have h515 := bdL_length (room := room) (tb := tb) (v := v) (lf := lf) (k := k)
  have HR := Lib.hid (Lst.all h.head)
  have H1 := Lib.hid (show (Tryz.prog.info? 159).map (·.size) = some (bdL room tb v lf k).length by rw [h515]; exact bd_size)
  have H2 := Lib.hid (show (Tryz.prog.info? 159).map (·.size) = some (bdL room tb v lf k).toArray.size by rw [List.size_toArray, h515]; exact bd_size)
  have ONE := Lib.hid (all_oneCell_toArray (bdL_one (room := room) (tb := tb) (lf := lf) (k := k) (owns_one h.own_)))
  have HZ0 := Lib.hid bd_zero
  have hZ := Blk.new w 159 (bdL 0 (fun _ => 0) (.slice none 0 0) (fun _ => 0) 0).toArray
  have HT := Lib.hid (Lst.there hZ (o := 0) (n := (bdL room tb v lf k).toArray.size) (by rw [List.size_toArray, h515, bdL_length]; exact Nat.le_refl _))
  obtain ⟨W1, hW1⟩ : ∃ W1, W1 = (w.alloc (.cells (bdL 0 (fun _ => 0) (.slice none 0 0) (fun _ => 0) 0).toArray 159)).setCells w.heap.size 0 (bdL room tb v lf k).toArray.toList := ⟨_, rfl⟩
  have L1 : Lst W1 w.heap.size (bdL room tb v lf k) := by
    subst hW1
    have := Lst.setCells hZ 0 (bdL room tb v lf k) (by rw [h515, bdL_length]; exact Nat.le_refl _)
    have e : spl (bdL 0 (fun _ => 0) (.slice none 0 0) (fun _ => 0) 0) 0 (bdL room tb v lf k) = bdL room tb v lf k := by
      unfold spl
      rw [h515, List.drop_of_length_le (by rw [bdL_length]; omega)]
      simp
    rw [e] at this
    exact this
  have k1 : Kept (· = w.heap.size) w W1 := by subst hW1; exact (Kept.of_below ((Below.refl _ _).alloc (Nat.le_refl _) _)).trans (Kept.setCells _ _ _ _ _ rfl)
  have hs1 : W1.heap.size = w.heap.size + 1 := by subst hW1; rw [size_setCells, World.size_alloc]
  have G1 : Lst W1 g (bdL room tb v lf k) := k1.blk h.head (by omega)
  have O1 := k1.owns h.own_ (fun i hi e => by have := (h.own_.lt i hi).2; omega)
  have a1 : W1.cell? ⟨g, 257, none⟩ = some v := by rw [Lst.at_ G1, bdL_things]
  have CC := Lib.hid (wclone_any O1 (by omega))
  have HP := Lib.hid (fun (v' : Value) (W2 : World) (q : Cln W1 W2 v' u vs) => show W2.cell? ⟨w.heap.size, 257, none⟩ = some v ∧ W2.frozen? ⟨w.heap.size, 257, none⟩ = false ∧ CpyPost w room es u (.returned (.pointer (some ⟨w.heap.size, 0, none⟩))) (W2.setCell ⟨w.heap.size, 257, none⟩ v') by
    have L2 : Lst W2 w.heap.size (bdL room tb v lf k) := Blk.below L1 q.below (by omega)
    have L3 := Lst.set1 L2 257 v'
    rw [bdL_setV] at L3
    have hne : v'.ownBlock ≠ some w.heap.size := fun e => by have := q.new _ e; omega
    have k3 := Kept.set_ (D := (· = w.heap.size)) W2 ⟨w.heap.size, 257, none⟩ v' rfl
    have O3 := k3.owns q.own_ (fun i hi e => hne (by rw [hi, e]))
    refine ⟨by rw [Lst.at_ L2, bdL_things], Blk.fz L2 _, v', rfl, ⟨k, tb, lf, vs, h.pl, h.len, L3, O3, hne⟩, ?_, fun i hi => by have := q.new i hi; omega⟩
    exact (((k1.mono (D' := fun i => w.heap.size ≤ i) (fun i e => by omega)).trans (Kept.of_below q.below)).trans (k3.mono (fun i e => by omega))).below (Nat.le_refl _) (fun i e => e))
  have HW1 := Lib.hid hW1
  clear h hZ h515 L1 k1 G1 O1 hW1 hfew
  generalize bdL room tb v lf k = hd at HR H1 H2 ONE HT HW1
  generalize (bdL 0 (fun _ => 0) (.slice none 0 0) (fun _ => 0) 0).toArray = zs at HZ0 HT HW1
  go_enter Tryz.func95, Tryz.ntmps95
  go_wp2_with fail
  (with_reducible refine C.out.mono ?_)
  rintro e w' ⟨rfl, rfl⟩
  go_wp2_with (first
    | (refine wpList_load_mid rfl 159 (.tmp 7) rfl g 0 rfl hd _ HR.out Tryz.underlying159 rfl H1.out ?_)
    | (refine wpList_alloc_z rfl 159 rfl zs HZ0.out ?_)
    | (refine wpList_store_mid rfl 159 (.tmp 3) (.tmp 8) rfl w'.heap.size 0 hd.toArray rfl rfl HT.out H2.out ONE.out ?_; rw [← HW1.out]))
  (with_reducible refine CC.out.mono ?_)
  rintro e W2 ⟨v', rfl, hc⟩
  obtain ⟨c1, c2, c3⟩ := HP.out v' W2 hc
  have HE := Lib.hid c3
  obtain ⟨A', cc, hv'⟩ := owns_slice hc.own_
  clear c3 hc
  subst hv'
  go_wp2
  go_ret
  exact HE.out
end Go.Proofs.YtajpipaooaemdaaGreatDoor
