/-
  Words for kids in memory: a row or a board that stands for them, its blocks, the block of the kids themselves.
-/
import Derived.Test.YtfmkhafpbfmadaaGreatSmWrite
import Derived.Test.YtfmkhafpbfmadaaGreatBdWrite
namespace Go.Proofs.YtfmkhafpbfmadaaGreat
open Go.RowKit

/-- A row, with its block and its things' block; a board, with its block and its things' slice. -/
inductive Ho where
  | row (r t : Nat)
  | board (r : Nat) (v : Value)
/-- Its blocks. -/
def Ho.D : Ho → Nat → Prop
  | .row r t => fun i => i = r ∨ i = t
  | .board r v => bdD r v
def Ho.ptr : Ho → Value
  | .row r _ => .pointer (some ⟨r, 0, none⟩)
  | .board r _ => .pointer (some ⟨r, 0, none⟩)
/-- It, as one of either. -/
def Ho.face : Ho → Value
  | .row r _ => .iface 118 (.pointer (some ⟨r, 0, none⟩))
  | .board r _ => .iface 119 (.pointer (some ⟨r, 0, none⟩))
/-- It holds es, and has this room. -/
def Ho.Is (w : World) (room : Nat) (es : List Ent) : Ho → Prop
  | .row r t => Sm w r t room es
  | .board r v => (room = 48 ∨ room = 256) ∧ ∃ u, Bd w r v room es u
/-- The two cells of kids. -/
def Ho.two : Ho → List Value
  | .row r _ => [.pointer (some ⟨r, 0, none⟩), .pointer none]
  | .board r _ => [.pointer none, .pointer (some ⟨r, 0, none⟩)]
theorem Ho.two_one (o : Ho) : ∀ x ∈ o.two, x.oneCell' = true := by
  intro x hx
  cases o <;> (simp only [Ho.two, List.mem_cons, List.not_mem_nil, or_false] at hx; rcases hx with rfl | rfl <;> rfl)

section
variable {w w' : World} {o : Ho} {room : Nat} {es : List Ent}
theorem Ho.Is.up (h : o.Is w room es) : Up es := by
  cases o with
  | row r t => exact Sm.up h
  | board r v => obtain ⟨_, u, h⟩ := h; exact h.up
theorem Ho.Is.few (h : o.Is w room es) : es.length ≤ room ∧ room ≤ 256 ∧ 1 ≤ room := by
  cases o with
  | row r t => exact ⟨Sm.few h, by have := Sm.most h; omega, Sm.lo h⟩
  | board r v => obtain ⟨hr, u, h⟩ := h; have := h.few; omega
theorem Ho.Is.kept (h : o.Is w room es) {D : Nat → Prop} (hk : Kept D w w') (hD : ∀ i, o.D i → ¬ D i) : o.Is w' room es := by
  cases o with
  | row r t => exact Sm.kept h hk (hD r (.inl rfl)) (hD t (.inr rfl))
  | board r v => obtain ⟨hr, u, h⟩ := h; exact ⟨hr, u, h.kept hk hD⟩
theorem Ho.Is.lt (h : o.Is w room es) {i : Nat} (hi : o.D i) : i < w.heap.size := by
  cases o with
  | row r t => exact hi.elim (fun e => e ▸ (Sm.lt h).1) (fun e => e ▸ (Sm.lt h).2)
  | board r v =>
    obtain ⟨hr, u, h⟩ := h
    rcases hi with rfl | hi
    · exact h.lt.1
    · exact h.lt.2 i hi
theorem Ho.Is.below (h : o.Is w room es) (hk : Below w.heap.size w w') : o.Is w' room es := h.kept (D := fun _ => False) (Kept.of_below hk) (fun _ _ q => q)
theorem Ho.Is.still (h : o.Is w room es) (hs : Still w w') : o.Is w' room es := h.kept (D := fun _ => False) (Kept.still hs) (fun _ _ q => q)
theorem Ho.Is.drewN (h : o.Is w room es) (n : Nat) : o.Is (w.drewN n) room es := h.still ⟨n, rfl⟩
end

/-- What kind so many have. -/
def kindN (n : Nat) : Nat := if n ≤ 4 then 4 else if n ≤ 16 then 16 else if n ≤ 48 then 48 else 256

/-- The block g are kids of this room that hold es; o stands for them. -/
structure Kr (w : World) (g : Nat) (o : Ho) (room : Nat) (es : List Ent) : Prop where
  two : Lst w g o.two
  is : o.Is w room es
  ne : ¬ o.D g
/-- All blocks of kids. -/
def Ho.all (o : Ho) (g : Nat) : Nat → Prop := fun i => i = g ∨ o.D i
section
variable {w w' : World} {g : Nat} {o : Ho} {room : Nat} {es : List Ent}
theorem Kr.kept (h : Kr w g o room es) {D : Nat → Prop} (hk : Kept D w w') (hD : ∀ i, o.all g i → ¬ D i) : Kr w' g o room es :=
  ⟨hk.blk h.two (hD g (.inl rfl)), h.is.kept hk (fun i hi => hD i (.inr hi)), h.ne⟩
theorem Kr.lt (h : Kr w g o room es) {i : Nat} (hi : o.all g i) : i < w.heap.size := by
  rcases hi with rfl | hi
  · exact Blk.lt h.two
  · exact h.is.lt hi
theorem Kr.lt0 (h : Kr w g o room es) : g < w.heap.size := h.lt (.inl rfl)
theorem Kr.below (h : Kr w g o room es) (hk : Below w.heap.size w w') : Kr w' g o room es := h.kept (D := fun _ => False) (Kept.of_below hk) (fun _ _ q => q)
theorem Kr.still (h : Kr w g o room es) (hs : Still w w') : Kr w' g o room es := h.kept (D := fun _ => False) (Kept.still hs) (fun _ _ q => q)
theorem Kr.drewN (h : Kr w g o room es) (n : Nat) : Kr (w.drewN n) g o room es := h.still ⟨n, rfl⟩
end
end Go.Proofs.YtfmkhafpbfmadaaGreat
