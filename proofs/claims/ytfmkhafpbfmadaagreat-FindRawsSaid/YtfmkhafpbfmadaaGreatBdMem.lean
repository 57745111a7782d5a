/-
  Words for a board in memory: its block's cells, the row of its things; what is read of it, and what keeps it.
-/
import Derived.Test.YtfmkhafpbfmadaaGreatSmPure
import Derived.Test.YtfmkhafpbfmadaaGreatSmMem
import Derived.Maps.AppendAt
namespace Go.Proofs.YtfmkhafpbfmadaaGreat
open Go.RowKit

/-- One cell of a board's block. -/
def bdC (room : Nat) (tb : Nat → Nat) (v : Value) (lf : Nat → Nat) (k : Nat) (i : Nat) : Value :=
  if i = 0 then .int .i64 (room : Int) else if i < 257 then .int .u16 (tb (i - 1) : Int) else if i = 257 then v else if i < 514 then .int .u8 (lf (i - 258) : Int) else .int .i64 (k : Int)
/-- The cells of a board's block: the room, the table of the places, the things' slice, the places that are free, and how many. -/
def bdL (room : Nat) (tb : Nat → Nat) (v : Value) (lf : Nat → Nat) (k : Nat) : List Value := (List.range 515).map (bdC room tb v lf k)
section
variable {room k : Nat} {tb lf : Nat → Nat} {v : Value}
theorem bdL_length : (bdL room tb v lf k).length = 515 := by rw [bdL, List.length_map, List.length_range]
theorem bdL_at {i : Nat} (hi : i < 515) : (bdL room tb v lf k)[i]? = some (bdC room tb v lf k i) := by
  rw [bdL, List.getElem?_map, List.getElem?_range hi]; rfl
theorem bdL_room : (bdL room tb v lf k)[0]? = some (.int .i64 (room : Int)) := bdL_at (by omega)
theorem bdL_table {b : Nat} (hb : b < 256) : (bdL room tb v lf k)[1 + b]? = some (.int .u16 (tb b : Int)) := by
  rw [bdL_at (by omega), bdC, if_neg (by omega), if_pos (by omega), show 1 + b - 1 = b by omega]
theorem bdL_things : (bdL room tb v lf k)[257]? = some v := by rw [bdL_at (by omega)]; rfl
theorem bdL_left {i : Nat} (hi : i < 256) : (bdL room tb v lf k)[258 + i]? = some (.int .u8 (lf i : Int)) := by
  rw [bdL_at (by omega), bdC, if_neg (by omega), if_neg (by omega), if_neg (by omega), if_pos (by omega), show 258 + i - 258 = i by omega]
theorem bdL_lefts : (bdL room tb v lf k)[514]? = some (.int .i64 (k : Int)) := by rw [bdL_at (by omega)]; rfl
theorem bdL_one (hv : v.oneCell' = true) : ∀ x ∈ bdL room tb v lf k, x.oneCell' = true := by
  intro x hx
  obtain ⟨i, _, rfl⟩ := List.mem_map.1 hx
  unfold bdC
  split
  · rfl
  · split
    · rfl
    · split
      · exact hv
      · split <;> rfl
theorem map_set_range {n : Nat} {f f' : Nat → Value} {i : Nat} {x : Value} (hi : f' i = x) (hf : ∀ j, j < n → j ≠ i → f' j = f j) : ((List.range n).map f).set i x = (List.range n).map f' := by
  apply List.ext_getElem?
  intro j
  rw [List.getElem?_set]
  by_cases hj : j < n
  · rw [List.getElem?_map, List.getElem?_map, List.getElem?_range hj]
    by_cases e : i = j
    · subst e
      rw [if_pos rfl, if_pos (by simpa using hj)]
      simp [hi]
    · rw [if_neg e]
      simp [hf j hj (fun q => e q.symm)]
  · rw [List.getElem?_eq_none (l := List.map f' _) (by simp; omega)]
    split
    · rename_i e; subst e; rw [if_neg (by simpa using hj)]
    · exact List.getElem?_eq_none (by simp; omega)
theorem bdL_setT {b n : Nat} (hb : b < 256) : (bdL room tb v lf k).set (1 + b) (.int .u16 (n : Int)) = bdL room (turnN tb b n) v lf k := by
  refine map_set_range ?_ (fun j _ hj => ?_)
  · rw [bdC, if_neg (by omega), if_pos (by omega), show 1 + b - 1 = b by omega, turn_at]
  · unfold bdC
    split
    · rfl
    · split
      · rw [turn_far _ _ (by omega)]
      · rfl
theorem bdL_setV {v' : Value} : (bdL room tb v lf k).set 257 v' = bdL room tb v' lf k := by
  refine map_set_range rfl (fun j _ hj => ?_)
  unfold bdC
  split
  · rfl
  · split
    · rfl
    · first | rfl | (rw [if_neg hj, if_neg hj])
theorem bdL_setL {i n : Nat} (hi : i < 256) : (bdL room tb v lf k).set (258 + i) (.int .u8 (n : Int)) = bdL room tb v (turnN lf i n) k := by
  refine map_set_range ?_ (fun j _ hj => ?_)
  · rw [bdC, if_neg (by omega), if_neg (by omega), if_neg (by omega), if_pos (by omega), show 258 + i - 258 = i by omega, turn_at]
  · unfold bdC
    split
    · rfl
    · split
      · rfl
      · split
        · rfl
        · split
          · rw [turn_far _ _ (by omega)]
          · rfl
theorem bdL_setK {n : Nat} : (bdL room tb v lf k).set 514 (.int .i64 (n : Int)) = bdL room tb v lf n := by
  refine map_set_range rfl (fun j hj hne => ?_)
  unfold bdC
  split
  · rfl
  · split
    · rfl
    · split
      · rfl
      · rw [if_pos (by omega), if_pos (by omega)]
end

/-- Block g is a board of this room that holds es, with u places; its things lie in the row of v. -/
structure BdIs (w : World) (g : Nat) (v : Value) (room : Nat) (es : List Ent) (u k : Nat) (tb lf : Nat → Nat) (vs : List Th) : Prop where
  pl : Pl room es k tb lf vs
  len : vs.length = u
  head : Lst w g (bdL room tb v lf k)
  own_ : w.ownsRow 0 27 1 v u (vs.map ev)
  ne : v.ownBlock ≠ some g
def Bd (w : World) (g : Nat) (v : Value) (room : Nat) (es : List Ent) (u : Nat) : Prop := ∃ k tb lf vs, BdIs w g v room es u k tb lf vs
/-- The board's own blocks. -/
def bdD (g : Nat) (v : Value) : Nat → Prop := fun i => i = g ∨ v.ownBlock = some i

theorem Kept.owns {D : Nat → Prop} {w w' : World} {e : TypeId} {v : Value} {n : Nat} {xs : List Value} (hk : Kept D w w') (h : w.ownsRow 0 e 1 v n xs) (hD : ∀ i, v.ownBlock = some i → ¬ D i) : w'.ownsRow 0 e 1 v n xs := by
  refine ⟨h.1, ?_⟩
  rcases h.2 with hn | ⟨g, cap, cur, rfl, hb, hgg, rest⟩
  · exact .inl hn
  · refine .inr ⟨g, cap, cur, rfl, hb, ?_, rest⟩
    rw [hk.block g (Array.getElem?_eq_some_iff.1 hgg).1 (hD g rfl)]
    exact hgg
theorem Kept.of_grown {w w' : World} {row : Option Nat} (h : w.grownBy w' row) : Kept (fun i => row = some i) w w' :=
  ⟨h.os, h.tape, h.output, h.size, fun k hk hd => h.block k hk (fun e => hd e.symm)⟩
theorem owns_one {w : World} {e : TypeId} {v : Value} {n : Nat} {xs : List Value} (h : w.ownsRow 0 e 1 v n xs) : v.oneCell' = true := by
  rcases h.2 with ⟨rfl, _⟩ | ⟨g, cap, cur, rfl, _⟩ <;> rfl
theorem owns_slice {w : World} {e : TypeId} {v : Value} {n : Nat} {xs : List Value} (h : w.ownsRow 0 e 1 v n xs) : ∃ A c, v = .slice A n c := by
  rcases h.2 with ⟨rfl, rfl⟩ | ⟨g, cap, cur, rfl, _⟩
  · exact ⟨_, _, rfl⟩
  · exact ⟨_, _, rfl⟩

section
variable {w w' : World} {g : Nat} {v : Value} {room u k : Nat} {es : List Ent} {tb lf : Nat → Nat} {vs : List Th}
theorem BdIs.kept (h : BdIs w g v room es u k tb lf vs) {D : Nat → Prop} (hk : Kept D w w') (hD : ∀ i, bdD g v i → ¬ D i) : BdIs w' g v room es u k tb lf vs :=
  ⟨h.pl, h.len, hk.blk h.head (hD g (.inl rfl)), hk.owns h.own_ (fun i hi => hD i (.inr hi)), h.ne⟩
theorem Bd.kept (h : Bd w g v room es u) {D : Nat → Prop} (hk : Kept D w w') (hD : ∀ i, bdD g v i → ¬ D i) : Bd w' g v room es u := by
  obtain ⟨k, tb, lf, vs, h⟩ := h; exact ⟨k, tb, lf, vs, h.kept hk hD⟩
theorem Bd.below (h : Bd w g v room es u) (hk : Below w.heap.size w w') : Bd w' g v room es u := h.kept (D := fun _ => False) (Kept.of_below hk) (fun _ _ q => q)
theorem Bd.drewN (h : Bd w g v room es u) (n : Nat) : Bd (w.drewN n) g v room es u := h.kept (D := fun _ => False) ((Kept.refl _ _).drewN n) (fun _ _ q => q)
theorem Bd.still (h : Bd w g v room es u) (hs : Still w w') : Bd w' g v room es u := by obtain ⟨n, rfl⟩ := hs; exact h.drewN n
theorem Bd.lt (h : Bd w g v room es u) : g < w.heap.size ∧ ∀ i, v.ownBlock = some i → i < w.heap.size := by
  obtain ⟨k, tb, lf, vs, h⟩ := h
  exact ⟨Blk.lt h.head, fun i hi => (h.own_.lt i hi).2⟩
theorem Bd.up (h : Bd w g v room es u) : Up es := by obtain ⟨k, tb, lf, vs, h⟩ := h; exact h.pl.up
theorem Bd.few (h : Bd w g v room es u) : es.length ≤ u ∧ u ≤ room ∧ room ≤ 256 := by
  obtain ⟨k, tb, lf, vs, h⟩ := h
  have := h.pl.sum
  have := h.pl.most
  have := h.pl.cap
  have := h.len
  omega
theorem Bd.room_ (h : Bd w g v room es u) : w.cell? ⟨g, 0, none⟩ = some (.int .i64 (room : Int)) := by
  obtain ⟨k, tb, lf, vs, h⟩ := h
  rw [Lst.at_ h.head, bdL_room]
theorem Bd.slice_ (h : Bd w g v room es u) : ∃ A c, v = .slice A u c ∧ w.cell? ⟨g, 257, none⟩ = some (.slice A u c) := by
  obtain ⟨k, tb, lf, vs, h⟩ := h
  obtain ⟨A, c, rfl⟩ := owns_slice h.own_
  exact ⟨A, c, rfl, by rw [Lst.at_ h.head, bdL_things]⟩
theorem Bd.lefts_ (h : Bd w g v room es u) : ∃ k, es.length + k = u ∧ w.cell? ⟨g, 514, none⟩ = some (.int .i64 (k : Int)) := by
  obtain ⟨k, tb, lf, vs, h⟩ := h
  exact ⟨k, by rw [← h.len]; exact h.pl.sum, by rw [Lst.at_ h.head, bdL_lefts]⟩
theorem Bd.table_no (h : Bd w g v room es u) {b : Nat} (hb : b < 256) (hh : hasE es b = false) : w.cell? ⟨g, 1 + b, none⟩ = some (.int .u16 0) := by
  obtain ⟨k, tb, lf, vs, h⟩ := h
  rw [Lst.at_ h.head, bdL_table hb, h.pl.no b hb hh]; rfl
/-- The place of one that is held. -/
structure At_ (w : World) (g : Nat) (v : Value) (u b : Nat) (x : Th) (t c q : Nat) : Prop where
  v_ : v = .slice (some ⟨t, 0, none⟩) u c
  lt_ : q < u
  few_ : u ≤ 256
  tb_ : w.cell? ⟨g, 1 + b, none⟩ = some (.int .u16 ((q : Int) + 1))
  sl_ : w.cell? ⟨g, 257, none⟩ = some (.slice (some ⟨t, 0, none⟩) u c)
  th_ : w.cell? ⟨t, q, none⟩ = some (ev x)
  fz_ : w.frozen? ⟨t, q, none⟩ = false
theorem BdIs.at_ (h : BdIs w g v room es u k tb lf vs) {b : Nat} (hb : b < 256) (hh : hasE es b = true) : ∃ t c q, tb b = q + 1 ∧ At_ w g v u b (getE es b) t c q := by
  obtain ⟨q, e, hq⟩ := h.pl.yes b hb hh
  have hlt := (List.getElem?_eq_some_iff.1 hq).1
  rw [h.len] at hlt
  obtain ⟨t, c, rfl, _, _⟩ := h.own_.form (by omega)
  have hm := h.pl.most
  have hc := h.pl.cap
  have hl := h.len
  refine ⟨t, c, q, e, rfl, hlt, by omega, ?_, by rw [Lst.at_ h.head, bdL_things], ?_, h.own_.frozenAt q⟩
  · rw [Lst.at_ h.head, bdL_table hb, e]; rfl
  · rw [h.own_.cellAt q (by omega), List.getElem?_map, hq]; rfl
theorem Bd.at_ (h : Bd w g v room es u) {b : Nat} (hb : b < 256) (hh : hasE es b = true) : ∃ t c q, At_ w g v u b (getE es b) t c q := by
  obtain ⟨k, tb, lf, vs, h⟩ := h
  obtain ⟨t, c, q, _, h⟩ := h.at_ hb hh
  exact ⟨t, c, q, h⟩
theorem Bd.first (hr : room ≤ 256) (h : Lst w g (bdL room (fun _ => 0) (.slice none 0 0) (fun _ => 0) 0)) : Bd w g (.slice none 0 0) room [] 0 :=
  ⟨0, _, _, [], Pl.first hr, rfl, h, World.ownsRow_nil _ _ _ _, by simp [Value.ownBlock]⟩
end
end Go.Proofs.YtfmkhafpbfmadaaGreat
