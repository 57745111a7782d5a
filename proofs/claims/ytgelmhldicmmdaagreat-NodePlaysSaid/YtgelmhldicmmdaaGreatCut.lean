/-
  More words for memory: the bytes' type, a slice's end as one run equation, make with room, what a call leaves that hands back bytes.
-/
import Derived.Test.YtgelmhldicmmdaaGreatChecked
import Derived.Test.YtgelmhldicmmdaaGreatOwn
namespace Go.Proofs.YtgelmhldicmmdaaGreat
open Go.RowKit

set_option maxRecDepth 100000 in
theorem info_u8 : (Tryz.prog.info? 5).map (fun i => (i.zero, i.size, i.bytes)) = some (some (.int .u8 0), 1, 1) := by kernel_rfl
set_option maxRecDepth 100000 in
theorem size_u8 : (Tryz.prog.info? 5).map (·.size) = some 1 := by kernel_rfl

theorem Byt.drop {w : World} {B : Nat} {ad : Addr} {n : Nat} {l : List UInt8} (h : Byt w B (some ad) n l) {k : Nat} (hk : k ≤ n) : Byt w B (some (ad.add k)) (n - k) (l.drop k) := by
  refine ⟨by have := h.1; simp; omega, by have := h.2.1; omega, fun hn => ?_⟩
  obtain ⟨ad', e, hb, hc⟩ := h.2.2 (by omega)
  injection e with e
  subst e
  refine ⟨_, rfl, by rw [block_of_add]; exact hb, fun j u hu => ?_⟩
  rw [add_of_add]
  exact hc (k + j) u (by rw [List.getElem?_drop] at hu; exact hu)

/-- b[k:], whatever room stands behind. -/
theorem slice_from {P : Program} {t e : TypeId} (ht : P.underlying t = some (.slice e)) (hsz : (P.info? e).map (·.size) = some 1) (ad : Addr) (k j c : Nat) (hc : k + j ≤ c) :
    ∃ A' : Option Addr, (∀ W : World, (Instr.slice t (.slice (some ad) (k + j) c) (some (.int .i64 (k : Int))) none none).run P W = .ok (.slice A' j (c - k)) W) ∧ (∀ w B l, Byt w B (some ad) (k + j) l → Byt w B A' j (l.drop k)) := by
  have he : P.elem t = e := by simp [Program.elem, ht]
  have ht' : P.underlying t = some (.slice (P.elem t)) := by rw [he]; exact ht
  obtain ⟨i, hi, hi1⟩ : ∃ i, P.info? e = some i ∧ i.size = 1 := by
    rcases h : P.info? e with _ | i
    · rw [h] at hsz; cases hsz
    · rw [h] at hsz; exact ⟨i, rfl, by simpa using hsz⟩
  refine ⟨if c = k then some ad else some (ad.add k), fun W => ?_, fun w B l h => ?_⟩
  · rw [run_slice_l W t (some ad) (k + j) c ht' .i64 (k : Int) (by omega) (by omega)]
    simp [he, sizeOf, typeInfo, hi, hi1, sliced]
  · by_cases hck : c = k
    · obtain rfl : j = 0 := by omega
      rw [List.drop_of_length_le (by have := h.1; omega)]
      exact Byt.none_
    · rw [if_neg hck]
      have := h.drop (k := k) (by omega)
      rwa [Nat.add_sub_cancel_left] at this

/-- What a call leaves that hands back bytes in memory of its own. -/
def SlPost (w : World) (l : List UInt8) (e : Ending) (w' : World) : Prop :=
  ∃ A n c, e = .returned (.slice A n c) ∧ Byt w' w'.heap.size A n l ∧ n ≤ c ∧ Below w.heap.size w w'
theorem Mine.room {w : World} {base : Nat} {e : TypeId} {A : Option Addr} {n c m : Nat} {l : List UInt8} (h : Mine w base e (.slice A n c) m l) : n ≤ c := by
  rcases h.2 with ⟨h1, h2⟩ | ⟨g, cap, cur, h1, _, _, h2, _⟩
  · injection h1 with _ h3 h4; omega
  · injection h1 with _ h3 h4; omega
theorem SlPost.mine {w w' : World} {base : Nat} {e : TypeId} {v : Value} {n : Nat} {l l' : List UInt8} (h : Mine w' base e v n l) (he : l = l') (hb : Below w.heap.size w w') : SlPost w l' (.returned v) w' := by
  subst he
  obtain ⟨A, c, rfl⟩ := h.slice
  exact ⟨A, n, c, rfl, h.byt, h.room, hb⟩
theorem SlPost.row {w w' : World} {e : TypeId} {g n : Nat} {l l' : List UInt8} (h : Row w' g e l) (he : l = l') (hn : l.length = n) (hm : n ≤ maxLen) (hb : Below w.heap.size w w') : SlPost w l' (.returned (.slice (some ⟨g, 0, none⟩) n n)) w' := by
  subst he
  exact ⟨_, _, _, rfl, h.byt hn hm h.lt, Nat.le_refl _, hb⟩
theorem byt_two (w : World) (e : TypeId) (a b : UInt8) {x y : Int} (hx : x = (a.toNat : Int)) (hy : y = (b.toNat : Int)) : Byt (w.alloc (.cells #[.int .u8 x, .int .u8 y] e)) (w.heap.size + 1) (some ⟨w.heap.size, 0, none⟩) 2 [a, b] := by
  subst hx hy
  exact (Row.new w e [a, b]).byt rfl (by unfold maxLen; omega) (by omega)
/-- make([]byte, 0, k). -/
theorem make_room {P : Program} {t e : TypeId} (ht : P.underlying t = some (.slice e)) (hi : (P.info? e).map (fun i => (i.zero, i.size, i.bytes)) = some (some (.int .u8 0), 1, 1)) (k : Nat) (hk : k ≤ 281474976710656) (w : World) :
    (Instr.makeSlice t (.int .i64 0) (.int .i64 (k : Int))).run P w = .ok (.slice (some ⟨w.heap.size, 0, none⟩) 0 k) (w.alloc (.cells (bvs (List.replicate k 0)) e)) := by
  obtain ⟨i0, hi0, hz0, hz1, hz2⟩ := info_parts hi
  have h := run_make (P := P) w t e i0 (.int .u8 0) ht hi0 hz0 .i64 .i64 0 (k : Int) (by omega) (by omega) (by rw [hz2]; omega) (by omega)
  rw [Int.toNat_natCast] at h
  have e1 : madeCells (Value.int .u8 0).cells (k * i0.size) = bvs (List.replicate k 0) := by
    rw [hz1, Nat.mul_one]
    apply Array.ext'
    simp [madeCells, Value.cells, bvs, bv, Nat.mod_one, List.map_const']
  rw [e1] at h
  exact h
theorem Mine.made (w : World) (base : Nat) (e : TypeId) (k : Nat) (hk : k ≤ maxLen) (hb : base ≤ w.heap.size) : Mine (w.alloc (.cells (bvs (List.replicate k 0)) e)) base e (.slice (some ⟨w.heap.size, 0, none⟩) 0 k) 0 [] :=
  World.ownsRow_made w _ k hb hk (by simp [bvs])

end Go.Proofs.YtgelmhldicmmdaaGreat
