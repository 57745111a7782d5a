/-
  Words for a row in memory: what is read of it. Nothing of the program is used.
-/
import Derived.Test.YtfmkhafpbfmadaaGreatMem
import Derived.Test.YtfmkhafpbfmadaaGreatSmPure
namespace Go.Proofs.YtfmkhafpbfmadaaGreat
open Go.RowKit

theorem take_map_at {α β : Type} {f : α → β} {bs : List β} {es : List α} {n j : Nat} {e : α} (h : bs.take n = es.map f) (hj : j < n) (he : es[j]? = some e) : bs[j]? = some (f e) := by
  have h1 : (bs.take n)[j]? = some (f e) := by rw [h, List.getElem?_map, he]; rfl
  rwa [List.getElem?_take, if_pos hj] at h1
/-- What is held, as a value. -/
abbrev ev (x : Th) : Value := .pointer x
/-- The byte, and the thing, of one, if there is one. -/
def eb (o : Option Ent) : Int := match o with | some e => (e.1.toNat : Int) | none => 0
def ex (o : Option Ent) : Th := match o with | some e => e.2 | none => none

/-- Block g reads as a row of this room that holds es; its things lie from A on. -/
structure Rd (w : World) (g : Nat) (room : Nat) (es : List Ent) (A : Option Addr) (c : Nat) : Prop where
  up : Up es
  few : es.length ≤ 16
  room : w.cell? ⟨g, 0, none⟩ = some (.int .i64 (room : Int))
  byt : ∀ (j : Nat) (e : Ent), es[j]? = some e → w.cell? ⟨g, 1 + j, none⟩ = some (.int .u8 (e.1.toNat : Int))
  sl : w.cell? ⟨g, 17, none⟩ = some (.slice A es.length c)
  th : ∀ (j : Nat) (e : Ent), es[j]? = some e → ∃ t, A = some ⟨t, 0, none⟩ ∧ w.cell? ⟨t, j, none⟩ = some (ev e.2)

section
variable {w w' : World} {g room c : Nat} {es : List Ent} {A : Option Addr}
theorem Rd.drewN (h : Rd w g room es A c) (n : Nat) : Rd (w.drewN n) g room es A c := ⟨h.up, h.few, h.room, h.byt, h.sl, h.th⟩
theorem Rd.still (h : Rd w g room es A c) (hs : Still w w') : Rd w' g room es A c := by obtain ⟨n, rfl⟩ := hs; exact h.drewN n
end

/-- A row that New gave: the block g has the room, sixteen bytes, and the slice of its things; the block t its things. -/
structure Sm (w : World) (g t : Nat) (room : Nat) (es : List Ent) : Prop where
  up : Up es
  few : es.length ≤ room
  lo : 1 ≤ room
  most : room ≤ 16
  ne : g ≠ t
  head : ∃ bs : List UInt8, bs.length = 16 ∧ bs.take es.length = es.map (·.1) ∧
    Lst w g (.int .i64 (room : Int) :: (bs.map (fun u => Value.int .u8 (u.toNat : Int)) ++ [.slice (some ⟨t, 0, none⟩) es.length room]))
  things : ∃ vs : List Th, vs.length = room ∧ vs.take es.length = es.map (·.2) ∧ Lst w t (vs.map ev)

section
variable {w w' : World} {g t room : Nat} {es : List Ent}
theorem Sm.rd (h : Sm w g t room es) : Rd w g room es (some ⟨t, 0, none⟩) room := by
  obtain ⟨bs, hb, ht, hl⟩ := h.head
  obtain ⟨vs, hv, hvt, hvl⟩ := h.things
  refine ⟨h.up, Nat.le_trans h.few h.most, ?_, fun j e he => ?_, ?_, fun j e he => ⟨t, rfl, ?_⟩⟩
  · rw [Lst.at_ hl]; rfl
  · rw [Lst.at_ hl, Nat.add_comm, List.getElem?_cons_succ]
    have hj : j < es.length := (List.getElem?_eq_some_iff.1 he).1
    have e1 : bs[j]? = some e.1 := take_map_at ht hj he
    have hjb : j < bs.length := (List.getElem?_eq_some_iff.1 e1).1
    rw [List.getElem?_append_left (by simpa using hjb), List.getElem?_map, e1]; rfl
  · rw [Lst.at_ hl, List.getElem?_cons_succ, List.getElem?_append_right (by simp [hb])]
    simp [hb]
  · rw [Lst.at_ hvl, List.getElem?_map]
    have hj : j < es.length := (List.getElem?_eq_some_iff.1 he).1
    have e1 : vs[j]? = some e.2 := take_map_at hvt hj he
    rw [e1]; rfl
theorem Sm.kept (h : Sm w g t room es) {D : Nat → Prop} (hk : Kept D w w') (hg : ¬ D g) (ht : ¬ D t) : Sm w' g t room es := by
  obtain ⟨bs, hb, hbt, hl⟩ := h.head
  obtain ⟨vs, hv, hvt, hvl⟩ := h.things
  exact ⟨h.up, h.few, h.lo, h.most, h.ne, ⟨bs, hb, hbt, hk.blk hl hg⟩, ⟨vs, hv, hvt, hk.blk hvl ht⟩⟩
theorem Sm.lt (h : Sm w g t room es) : g < w.heap.size ∧ t < w.heap.size := by
  obtain ⟨bs, hb, hbt, hl⟩ := h.head
  obtain ⟨vs, hv, hvt, hvl⟩ := h.things
  exact ⟨Blk.lt hl, Blk.lt hvl⟩
theorem Sm.below (h : Sm w g t room es) (hk : Below w.heap.size w w') : Sm w' g t room es := h.kept (D := fun _ => False) (Kept.of_below hk) (fun q => q) (fun q => q)
theorem Sm.drewN (h : Sm w g t room es) (n : Nat) : Sm (w.drewN n) g t room es := ⟨h.up, h.few, h.lo, h.most, h.ne, h.head, h.things⟩
theorem Sm.still (h : Sm w g t room es) (hs : Still w w') : Sm w' g t room es := by obtain ⟨n, rfl⟩ := hs; exact h.drewN n
end
end Go.Proofs.YtfmkhafpbfmadaaGreat
