/-
  Words for memory that a call makes: a block that holds just the bytes l, make, copy, a store; append onto a row of the call's own. Nothing of the program is used.
-/
import Derived.Test.YtgelmhldicmmdaaGreatMem
import Derived.Laws.CopyOwn
import Derived.Laws.MakeOwn
import Derived.Maps.AppendAt
import Derived.RegionTactic
namespace Go.Proofs.YtgelmhldicmmdaaGreat
open Go.RowKit

def bv (u : UInt8) : Value := .int .u8 (u.toNat : Int)
def bvs (l : List UInt8) : Array Value := (l.map bv).toArray

/-- Block g holds just the bytes l (cells of type e), none frozen. -/
def Row (w : World) (g : Nat) (e : TypeId) (l : List UInt8) : Prop := w.heap[g]? = some (.cells (bvs l) e (0, 0))

section
variable {w w' : World} {g : Nat} {e : TypeId} {l : List UInt8}
theorem Row.lt (h : Row w g e l) : g < w.heap.size := by
  rcases Nat.lt_or_ge g w.heap.size with hlt | hge
  · exact hlt
  · unfold Row at h; rw [Array.getElem?_eq_none hge] at h; cases h
theorem Row.cell (h : Row w g e l) {i : Nat} {u : UInt8} (hi : l[i]? = some u) : w.cell? ⟨g, i, none⟩ = some (.int .u8 (u.toNat : Int)) := by
  rw [cell_of_row w g i (bvs l) e (0, 0) h]
  simp [bvs, hi, bv]
theorem Row.frozen (h : Row w g e l) (i : Nat) : w.frozen? ⟨g, i, none⟩ = false := by
  unfold Row at h
  simp [World.frozen?, h]
theorem Row.new (w : World) (e : TypeId) (l : List UInt8) : Row (w.alloc (.cells (bvs l) e)) w.heap.size e l := heap_alloc_new w _
theorem Row.drewN (h : Row w g e l) (n : Nat) : Row (w.drewN n) g e l := h
theorem Row.alloc (h : Row w g e l) (o : Obj) : Row (w.alloc o) g e l := (Below.heap_alloc w o g h.lt).trans h
theorem Row.set_ (h : Row w g e l) (i : Nat) (u : UInt8) : Row (w.setCell ⟨g, i, none⟩ (.int .u8 (u.toNat : Int))) g e (l.set i u) := by
  unfold Row at h ⊢
  simp [World.setCell, Array.getElem?_modify, h, bvs, bv, List.map_set]
theorem Row.far (h : Row w g e l) {p : Addr} (hp : g ≠ p.block) (u : Value) : Row (w.setCell p u) g e l := (Below.heap_setCell w p u g hp).trans h
theorem Row.below {B : Nat} (h : Row w g e l) (hb : Below B w w') (hg : g < B) : Row w' g e l := (hb.block g hg).trans h
theorem Row.byt (h : Row w g e l) {n B : Nat} (hn : l.length = n) (hm : n ≤ maxLen) (hg : g < B) : Byt w B (some ⟨g, 0, none⟩) n l :=
  ⟨hn, hm, fun _ => ⟨_, rfl, hg, fun j u hu => by
    have := h.cell hu
    unfold Addr.add
    split
    · rename_i e0; subst e0; exact this
    · simpa using this⟩⟩
end

theorem make_bytes {P : Program} {t e : TypeId} (ht : P.underlying t = some (.slice e)) (hi : (P.info? e).map (fun i => (i.zero, i.size, i.bytes)) = some (some (.int .u8 0), 1, 1)) (k : Nat) (hk : k ≤ 281474976710656) (w : World) :
    (Instr.makeSlice t (.int .i64 (k : Int)) (.int .i64 (k : Int))).run P w = .ok (.slice (some ⟨w.heap.size, 0, none⟩) k k) (w.alloc (.cells (bvs (List.replicate k 0)) e)) := by
  obtain ⟨i0, hi0, hz0, hz1, hz2⟩ := info_parts hi
  have h := run_make (P := P) w t e i0 (.int .u8 0) ht hi0 hz0 .i64 .i64 (k : Int) (k : Int) (by omega) (Int.le_refl _) (by rw [hz2]; omega) (by omega)
  rw [Int.toNat_natCast] at h
  have e1 : madeCells (Value.int .u8 0).cells (k * i0.size) = bvs (List.replicate k 0) := by
    rw [hz1, Nat.mul_one]
    apply Array.ext'
    simp [madeCells, Value.cells, bvs, bv, Nat.mod_one, List.map_const']
  rw [e1] at h
  exact h

theorem wpList_copy_row {P : Program} {w : World} {ops : Array Oper} {rest : List Oper} {o : Oper} {a : Act} {Q : Exit → Act → World → Prop} (hgd : o.guard = none) (d s : Operand) (dT sT : TypeId)
    (ho : o.op = .call { callee := .builtin .copy, args := #[d, s], argTypes := #[dT, sT] }) (e : TypeId) (hu : P.underlying dT = some (.slice e)) (hsz : (P.info? e).map (·.size) = some 1)
    (g n c : Nat) (A : Option Addr) (m c' B : Nat) (l0 l : List UInt8) (hd : a.eval d = .slice (some ⟨g, 0, none⟩) n c) (hs : a.eval s = .slice A m c')
    (hr : Row w g e l0) (hl0 : l0.length = n) (hb : Byt w B A m l)
    (h : ∀ w', Hid (Row w' g e (l.take n ++ l0.drop m)) → Below g w w' → wpList P ops Q rest (a.put o.dst (goInt (l.take n).length)) w') :
    wpList P ops Q (o :: rest) a w := by
  have hlen : ((l.take n).map bv).length = (l.take n).length := by simp
  refine wpList_copy_splice hgd d s dT sT ho e hu hsz (some ⟨g, 0, none⟩) A n c m c' hd hs g 0 (l0.map bv) e hr ((l.take n).map bv) ?_ ?_ ?_ ?_ g w (Below.refl _ _) (Nat.le_refl _) ?_
  · have := hb.1
    simp only [List.length_map, List.length_take, this]
    exact Nat.min_comm n m
  · intro hp
    refine ⟨rfl, ?_⟩
    have hm : 0 < m := by have := hb.1; simp only [List.length_map, List.length_take] at hp; omega
    obtain ⟨ad, rfl, _, hc⟩ := hb.2.2 hm
    refine ⟨ad, rfl, fun j v hv => ?_⟩
    rw [List.getElem?_map] at hv
    rcases hx : (l.take n)[j]? with _ | u
    · rw [hx] at hv; simp at hv
    · rw [hx] at hv
      simp only [Option.map_some, Option.some.injEq] at hv
      subst hv
      rw [List.getElem?_take] at hx
      split at hx
      · exact hc j u hx
      · cases hx
  · simp only [List.length_map, List.length_take]; omega
  · intro v hv
    simp only [List.mem_map] at hv
    obtain ⟨u, _, rfl⟩ := hv
    rfl
  · intro w' h1 h2
    rw [hlen]
    refine h w' ?_ h2
    have h1' := h1.out
    show w'.heap[g]? = _
    rw [h1']
    congr 3
    simp only [splice, List.take_zero, List.nil_append, List.length_map, Nat.zero_add]
    rw [List.map_append]
    congr 1
    rw [List.map_drop]
    have := hb.1
    simp only [List.length_take]
    by_cases hnm : m ≤ n
    · rw [Nat.min_eq_right (by omega)]; congr 1
    · rw [List.drop_of_length_le (by simp; omega), List.drop_of_length_le (by simp; omega)]

/-- The run of a copy into a row that is known whole, to be laid ahead of the walk where a cut stands in the same statement. -/
theorem run_copy_byt {P : Program} (w : World) {dT sT e : TypeId} (ty : TypeId) (hu : P.underlying dT = some (.slice e)) (hsz : (P.info? e).map (·.size) = some 1)
    (g n c : Nat) (A : Option Addr) (m c' B : Nat) (l0 l : List UInt8) (hr : Row w g e l0) (hl0 : l0.length = n) (hb : Byt w B A m l) :
    ∃ w', (Builtin.copy_ #[dT, sT] ty #[.slice (some ⟨g, 0, none⟩) n c, .slice A m c']).run P w = .ok (goInt (l.take n).length) w' ∧ Row w' g e (l.take n ++ l0.drop m) ∧ Below g w w' := by
  have hlb := hb.1
  have hmin : (l.take n).length = Nat.min m n := by simp only [List.length_take, hlb]; exact Nat.min_comm n m
  by_cases h0 : Nat.min m n = 0
  · refine ⟨w, ?_, ?_, Below.refl _ _⟩
    · rw [run_copy_none (P := P) w dT sT ty e _ _ n c m c' hu hsz h0, hmin, h0]; rfl
    · have e1 : l.take n = [] := List.eq_nil_of_length_eq_zero (by rw [hmin, h0])
      have e2 : l0.drop m = l0 := by
        rcases Nat.eq_zero_or_pos m with q | q
        · subst q; rfl
        · have : n = 0 := by unfold Nat.min at h0; simp at h0; omega
          have : l0 = [] := List.eq_nil_of_length_eq_zero (by omega)
          subst this; simp
      rw [e1, e2]; exact hr
  · have hm : 0 < m := by rcases Nat.eq_zero_or_pos m with q | q; (subst q; simp at h0); exact q
    obtain ⟨ad, rfl, _, hc⟩ := hb.2.2 hm
    have hle : Nat.min m n ≤ n := Nat.min_le_right _ _
    have hrun := run_copy_row (P := P) w dT sT ty e g 0 n c ad m c' (bvs l0) e ((l.take n).map bv) hu hsz hr (by rw [List.length_map, hmin]) (fun j v hv => by
        rw [List.getElem?_map] at hv
        rcases hx : (l.take n)[j]? with _ | u
        · rw [hx] at hv; simp at hv
        · rw [hx] at hv
          simp only [Option.map_some, Option.some.injEq] at hv
          subst hv
          rw [List.getElem?_take] at hx
          split at hx
          · exact hc j u hx
          · cases hx) (by simp only [List.length_map, hmin, bvs, List.size_toArray]; omega) (fun v hv => by
        simp only [List.mem_map] at hv
        obtain ⟨u, _, rfl⟩ := hv
        rfl)
    rw [List.length_map] at hrun
    refine ⟨_, hrun, ?_, below_setRow (Below.refl _ _) (Nat.le_refl _) _⟩
    show (w.setRow g _).heap[g]? = _
    rw [setRow_heap w g _ _ e _ hr]
    congr 3
    simp only [bvs, List.take_zero, List.nil_append, Nat.zero_add]
    rw [List.map_append, List.map_drop]
    congr 1
    by_cases hnm : m ≤ n
    · rw [hmin, show Nat.min m n = m from Nat.min_eq_left hnm]
    · have e3 : Nat.min m n = n := Nat.min_eq_right (by omega)
      rw [hmin, e3, List.drop_of_length_le (by simp; omega), List.drop_of_length_le (by simp; omega)]

/-- A row of the call's own, of bytes: made by make or append, in blocks from base on. -/
def Mine (w : World) (base : Nat) (e : TypeId) (v : Value) (n : Nat) (l : List UInt8) : Prop := w.ownsRow base e 1 v n (l.map bv)
theorem Mine.nil (w : World) (base : Nat) (e : TypeId) : Mine w base e (.slice none 0 0) 0 [] := World.ownsRow_nil w base e 1
theorem Mine.length {w : World} {base : Nat} {e : TypeId} {v : Value} {n : Nat} {l : List UInt8} (h : Mine w base e v n l) : l.length = n := by
  have := h.1; simpa using this
theorem Mine.slice {w : World} {base : Nat} {e : TypeId} {v : Value} {n : Nat} {l : List UInt8} (h : Mine w base e v n l) : ∃ A c, v = .slice A n c := by
  rcases h.2 with ⟨rfl, rfl⟩ | ⟨g, cap, cur, rfl, _⟩
  · exact ⟨_, _, rfl⟩
  · exact ⟨_, _, rfl⟩
theorem Mine.byt {w : World} {base : Nat} {e : TypeId} {A : Option Addr} {n c : Nat} {l : List UInt8} (h : Mine w base e (.slice A n c) n l) : Byt w w.heap.size A n l := by
  have hl := Mine.length h
  refine ⟨hl, ?_, fun hn => ?_⟩
  · rcases h.2 with ⟨_, h0⟩ | ⟨g, cap, cur, hv, _, _, h1, h2, _⟩
    · subst h0; unfold maxLen; omega
    · omega
  · obtain ⟨g, cap, hv, _, hlt⟩ := World.ownsRow.form h hn
    have hA : A = some ⟨g, 0, none⟩ := by injection hv
    subst hA
    exact ⟨_, rfl, hlt, fun j u hu => by
      have := World.ownsRow.cells h (g := g) rfl j (bv u) (by simp [hu])
      exact this⟩

theorem Mine.alloc {w : World} {base : Nat} {e : TypeId} {v : Value} {n : Nat} {l : List UInt8} (h : Mine w base e v n l) (o : Obj) : Mine (w.alloc o) base e v n l := World.ownsRow.alloc h o
theorem Mine.drewN {w : World} {base : Nat} {e : TypeId} {v : Value} {n : Nat} {l : List UInt8} (h : Mine w base e v n l) (k : Nat) : Mine (w.drewN k) base e v n l := h
theorem Mine.lt {w : World} {base : Nat} {e : TypeId} {v : Value} {n : Nat} {l : List UInt8} (h : Mine w base e v n l) : ∀ k, v.ownBlock = some k → base ≤ k ∧ k < w.heap.size := World.ownsRow.lt h
/-- A literal of one byte. -/
theorem byt_one (w : World) (e : TypeId) {z : Int} {u : UInt8} (hz : z = (u.toNat : Int)) : Byt (w.alloc (.cells #[.int .u8 z] e)) (w.heap.size + 1) (some ⟨w.heap.size, 0, none⟩) 1 [u] := by
  subst hz
  exact (Row.new w e [u]).byt rfl (by unfold maxLen; omega) (by omega)
theorem Mine.set_ {w : World} {base : Nat} {e : TypeId} {g n c : Nat} {l : List UInt8} (h : Mine w base e (.slice (some ⟨g, 0, none⟩) n c) n l) (j : Nat) (u : UInt8) :
    Mine (w.setCell ⟨g, j, none⟩ (.int .u8 (u.toNat : Int))) base e (.slice (some ⟨g, 0, none⟩) n c) n (l.set j u) := by
  have := (World.ownsRow.stored h j (bv u)).1
  unfold Mine
  rw [List.map_set]
  exact this
theorem Mine.cell {w : World} {base : Nat} {e : TypeId} {g n c : Nat} {l : List UInt8} (h : Mine w base e (.slice (some ⟨g, 0, none⟩) n c) n l) {j : Nat} {u : UInt8} (hu : l[j]? = some u) :
    w.cell? ⟨g, j, none⟩ = some (.int .u8 (u.toNat : Int)) := by
  have hj : j < n := by have := (List.getElem?_eq_some_iff.1 hu).1; have := Mine.length h; omega
  rw [World.ownsRow.cellAt h j (by omega)]
  simp [hu, bv]
theorem Mine.frozen {w : World} {base : Nat} {e : TypeId} {g n c : Nat} {l : List UInt8} (h : Mine w base e (.slice (some ⟨g, 0, none⟩) n c) n l) (j : Nat) : w.frozen? ⟨g, j, none⟩ = false :=
  World.ownsRow.frozenAt h j

theorem run_append_none {P : Program} (w : World) (base : Nat) (t ty e : TypeId) (i : TypeInfo) (ht : P.underlying t = some (.slice e)) (hi : P.info? e = some i)
    (v : Value) (n : Nat) (xs : List Value) (hown : w.ownsRow base e 1 v n xs) (c : Nat) : (Builtin.append_ #[t, t] ty #[v, .slice none 0 c]).run P w = .ok v w := by
  rcases hown.2 with ⟨rfl, rfl⟩ | ⟨g, cap, cur, rfl, _, _, hnc, _⟩
  · simp [Builtin.append_, run_underlying ht, sizeOf, typeInfo, hi, Builtin.lenOf, Builtin.firstCells]
  · simp [Builtin.append_, run_underlying ht, sizeOf, typeInfo, hi, Builtin.lenOf, Builtin.firstCells, hnc, storeCells]

theorem run_append_byt {P : Program} (w : World) {t ty e : TypeId} (ht : P.underlying t = some (.slice e)) (hi : (P.info? e).map (fun i => (i.zero, i.size, i.bytes)) = some (some (.int .u8 0), 1, 1))
    (base : Nat) (v : Value) (n : Nat) (l : List UInt8) (hown : Mine w base e v n l) (B : Nat) (A : Option Addr) (m c : Nat) (l' : List UInt8) (hb : Byt w B A m l')
    (hbytes : n + m ≤ 140737488355328) (hbase : base ≤ w.heap.size) :
    ∃ v' w', (Builtin.append_ #[t, t] ty #[v, .slice A m c]).run P w = .ok v' w' ∧ Mine w' base e v' (n + m) (l ++ l') ∧ w.grownBy w' v.ownBlock ∧ (v'.ownBlock = v.ownBlock ∨ v'.ownBlock = some w.heap.size) := by
  obtain ⟨i0, hi0, hz0, hz1, hz2⟩ := info_parts hi
  have hl' := hb.1
  rcases A with _ | ad
  · have hm : m = 0 := by
      rcases Nat.eq_zero_or_pos m with h0 | h0
      · exact h0
      · obtain ⟨ad, h, _⟩ := hb.2.2 h0; cases h
    subst hm
    have : l' = [] := List.eq_nil_of_length_eq_zero hl'
    subst this
    exact ⟨v, w, run_append_none w base t ty e i0 ht hi0 v n _ hown c, by simpa [Mine] using hown, World.grownBy.refl w _, .inl rfl⟩
  · have hcells : ∀ j u, (l'.map bv)[j]? = some u → w.cell? (ad.add j) = some u := by
      intro j u hu
      rw [List.getElem?_map] at hu
      rcases hx : l'[j]? with _ | b
      · rw [hx] at hu; simp at hu
      · rw [hx] at hu
        simp only [Option.map_some, Option.some.injEq] at hu
        subst hu
        have h0 : 0 < m := by have := (List.getElem?_eq_some_iff.1 hx).1; omega
        obtain ⟨ad', h, _, hc⟩ := hb.2.2 h0
        injection h with h
        subst h
        exact hc j b hx
    obtain ⟨v', w', hrun, h2, h3, _, h5⟩ := run_append_own_at (P := P) w base t ty e i0 (.int .u8 0) 1 1 ht hi0 hz0 hz1 hz2 rfl (by omega) v n (l.map bv) hown ad m c (l'.map bv) (by simpa using hl') hcells
      (fun u hu => by simp only [List.mem_map] at hu; obtain ⟨b, _, rfl⟩ := hu; rfl) (by unfold maxLen; omega) (by omega) hbase
    exact ⟨v', w', hrun, by unfold Mine; rw [List.map_append]; exact h2, h3, h5⟩

theorem wp_append_byt {P : Program} (w : World) {o : Oper} {a : Act} {K : Act → World → Prop} {Q : Exit → Act → World → Prop} (s x : Operand) (t : TypeId)
    (ho : o.op = .call { callee := .builtin .append, args := #[s, x], argTypes := #[t, t] }) {e : TypeId}
    (ht : P.underlying t = some (.slice e)) (hi : (P.info? e).map (fun i => (i.zero, i.size, i.bytes)) = some (some (.int .u8 0), 1, 1))
    (base : Nat) (v : Value) (n : Nat) (l : List UInt8) (hs : a.eval s = v) (hown : Mine w base e v n l) (B : Nat) (A : Option Addr) (m c : Nat) (l' : List UInt8) (hx : a.eval x = .slice A m c) (hb : Byt w B A m l')
    (hbytes : n + m ≤ 140737488355328) (hbase : base ≤ w.heap.size)
    (h : ∀ v' w', Mine w' base e v' (n + m) (l ++ l') → w.grownBy w' v.ownBlock → (v'.ownBlock = v.ownBlock ∨ v'.ownBlock = some w.heap.size) → K (a.put o.dst v') w') : o.wp P a w K Q := by
  obtain ⟨v', w', hrun, h2, h3, h4⟩ := run_append_byt (P := P) w (ty := o.type) ht hi base v n l hown B A m c l' hb hbytes hbase
  unfold Oper.wp execOp
  simp only [ho, resolve, invoke, builtin, Sem.run_bind, Sem.run_pure, Result.andThen_ok, List.map_toArray, List.map_cons, List.map_nil, hs, hx, hrun]
  exact h v' w' h2 h3 h4

theorem wpList_append_byt {P : Program} (w : World) {ops : Array Oper} {rest : List Oper} {o : Oper} {a : Act} {Q : Exit → Act → World → Prop} (hgd : o.guard = none) (s x : Operand) (t : TypeId)
    (ho : o.op = .call { callee := .builtin .append, args := #[s, x], argTypes := #[t, t] }) {e : TypeId}
    (ht : P.underlying t = some (.slice e)) (hi : (P.info? e).map (fun i => (i.zero, i.size, i.bytes)) = some (some (.int .u8 0), 1, 1))
    (base : Nat) (v : Value) (n : Nat) (l : List UInt8) (hs : a.eval s = v) (hown : Mine w base e v n l) (B : Nat) (A : Option Addr) (m c : Nat) (l' : List UInt8) (hx : a.eval x = .slice A m c) (hb : Byt w B A m l')
    (hbytes : n + m ≤ 140737488355328) (hbase : base ≤ w.heap.size)
    (h : ∀ v' w', Mine w' base e v' (n + m) (l ++ l') → w.grownBy w' v.ownBlock → (v'.ownBlock = v.ownBlock ∨ v'.ownBlock = some w.heap.size) → wpList P ops Q rest (a.put o.dst v') w') : wpList P ops Q (o :: rest) a w :=
  wpList_plain hgd fun _ hK => wp_append_byt w s x t ho ht hi base v n l hs hown B A m c l' hx hb hbytes hbase fun v' w' h2 h3 h4 => hK _ _ (h v' w' h2 h3 h4)
end Go.Proofs.YtgelmhldicmmdaaGreat
