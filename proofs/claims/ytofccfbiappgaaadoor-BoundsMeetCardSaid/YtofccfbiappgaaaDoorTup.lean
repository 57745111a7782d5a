/-
  Words for memory of layer 6: a slice of elements of some cells each, that came in or was made, append of one element; slices of fields, of values; rows of them that a call makes. Nothing of the program is used.
  What tuple.Check and the document's Check answer.
  What the statements' own fields and values answer: the same fields, the same values, in memory of the call's own.
-/
import Derived.Test.YtofccfbiappgaaaDoorMem
import Derived.Deep.MidRow
import Derived.Laws.ResultCell
import Derived.Test.YtofccfbiappgaaaDoorPureB
import Derived.Test.YtofccfbiappgaaaDoorField
namespace Go.Proofs.YtofccfbiappgaaaDoor
open Go.RowKit

theorem flatten_at {α : Type} {k : Nat} {css : List (List α)} (h : ∀ c ∈ css, c.length = k) {j i : Nat} {c : List α} (hj : css[j]? = some c) (hi : i < k) : css.flatten[j * k + i]? = c[i]? := by
  induction css generalizing j with
  | nil => simp at hj
  | cons d css ih =>
    have hd : d.length = k := h d (by simp)
    cases j with
    | zero =>
      simp at hj
      subst hj
      rw [List.flatten_cons, Nat.zero_mul, Nat.zero_add, List.getElem?_append_left (by omega)]
    | succ j =>
      have e : (j + 1) * k + i = d.length + (j * k + i) := by rw [hd, Nat.add_mul]; omega
      rw [List.flatten_cons, e, List.getElem?_append_right (by omega), Nat.add_sub_cancel_left]
      exact ih (fun c hc => h c (by simp [hc])) (by simpa using hj)
theorem flatten_len {α : Type} {k : Nat} {css : List (List α)} (h : ∀ c ∈ css, c.length = k) : css.flatten.length = css.length * k := by
  induction css with
  | nil => simp
  | cons d css ih =>
    rw [List.flatten_cons, List.length_append, ih (fun c hc => h c (by simp [hc])), h d (by simp), List.length_cons, Nat.add_mul]
    omega

/-- The slice value '.slice A n _' holds n elements of k cells each, their cells css, and lies below block B. -/
def Rws (w : World) (B : Nat) (A : Option Addr) (n k : Nat) (css : List (List Value)) : Prop :=
  css.length = n ∧ n ≤ maxLen ∧ (∀ c ∈ css, c.length = k) ∧ (0 < n → ∃ ad, A = some ad ∧ ad.block < B ∧ ∀ (j i : Nat) (c : List Value) (u : Value), css[j]? = some c → c[i]? = some u → w.cell? (ad.add (j * k + i)) = some u)
section
variable {w w' : World} {B B' n k : Nat} {A : Option Addr} {css : List (List Value)}
theorem Rws.none_ : Rws w B A 0 k [] := ⟨rfl, by unfold maxLen; omega, by simp, fun h => absurd h (by omega)⟩
theorem Rws.keep (h : Rws w B A n k css) (hk : ∀ p : Addr, p.block < B → w'.cell? p = w.cell? p) : Rws w' B A n k css :=
  ⟨h.1, h.2.1, h.2.2.1, fun hn => by
    obtain ⟨ad, e, hb, hc⟩ := h.2.2.2 hn
    exact ⟨ad, e, hb, fun j i c u hj hi => (hk _ (by rw [block_of_add]; exact hb)).trans (hc j i c u hj hi)⟩⟩
theorem Rws.below (h : Rws w B A n k css) (hb : Below B w w') : Rws w' B A n k css := h.keep fun _ hp => hb.cell hp
theorem Rws.more (h : Rws w B A n k css) (hB : B ≤ B') : Rws w B' A n k css :=
  ⟨h.1, h.2.1, h.2.2.1, fun hn => by
    obtain ⟨ad, e, hb, hc⟩ := h.2.2.2 hn
    exact ⟨ad, e, by omega, hc⟩⟩
theorem Rws.drewN (h : Rws w B A n k css) (m : Nat) : Rws (w.drewN m) B A n k css := h
theorem Rws.alloc (h : Rws w B A n k css) (hB : B ≤ w.heap.size) (o : Obj) : Rws (w.alloc o) B A n k css := h.keep fun p hp => World.cell?_alloc_lt w o p (by omega)
theorem Rws.at_ {j : Nat} (h : Rws w B A n k css) (hj : j < n) : ∃ (ad : Addr) (c : List Value), A = some ad ∧ ad.block < B ∧ css[j]? = some c ∧ c.length = k ∧ ∀ (i : Nat) (u : Value), c[i]? = some u → w.cell? (ad.add (j * k + i)) = some u := by
  obtain ⟨ad, e, hb, hc⟩ := h.2.2.2 (by omega)
  have hl : j < css.length := by have := h.1; omega
  have hq := List.getElem?_eq_getElem hl
  exact ⟨ad, css[j], e, hb, hq, h.2.2.1 _ (List.getElem_mem hl), fun i u hu => hc j i _ u hq hu⟩
theorem Rws.take (h : Rws w B A n k css) {m : Nat} (hm : m ≤ n) : Rws w B A m k (css.take m) := by
  refine ⟨by have := h.1; simp; omega, by have := h.2.1; omega, fun c hc => h.2.2.1 c (List.mem_of_mem_take hc), fun hn => ?_⟩
  obtain ⟨ad, e, hb, hc⟩ := h.2.2.2 (by omega)
  exact ⟨ad, e, hb, fun j i c u hj hi => hc j i c u (by rw [List.getElem?_take] at hj; split at hj; exact hj; cases hj) hi⟩
end

/-- A row of the call's own: elements of k cells each, of type e, in blocks from base on. -/
def MineR (w : World) (base : Nat) (e : TypeId) (k : Nat) (v : Value) (n : Nat) (css : List (List Value)) : Prop := w.ownsRow base e k v n css.flatten ∧ css.length = n ∧ ∀ c ∈ css, c.length = k
section
variable {w w' : World} {base : Nat} {e : TypeId} {k n : Nat} {v : Value} {css : List (List Value)}
theorem MineR.nil (w : World) (base : Nat) (e : TypeId) (k : Nat) : MineR w base e k (.slice none 0 0) 0 [] := ⟨World.ownsRow_nil w base e k, rfl, by simp⟩
theorem MineR.slice (h : MineR w base e k v n css) : ∃ A c, v = .slice A n c ∧ n ≤ c := by
  rcases h.1.2 with ⟨rfl, rfl⟩ | ⟨g, cap, cur, rfl, _, _, hc, _⟩
  · exact ⟨_, _, rfl, Nat.le_refl _⟩
  · exact ⟨_, _, rfl, hc⟩
theorem MineR.alloc (h : MineR w base e k v n css) (o : Obj) : MineR (w.alloc o) base e k v n css := ⟨h.1.alloc o, h.2⟩
theorem MineR.drewN (h : MineR w base e k v n css) (m : Nat) : MineR (w.drewN m) base e k v n css := h
theorem MineR.lt (h : MineR w base e k v n css) : ∀ g, v.ownBlock = some g → base ≤ g ∧ g < w.heap.size := h.1.lt
theorem MineR.rws {A : Option Addr} {c : Nat} (h : MineR w base e k (.slice A n c) n css) : Rws w w.heap.size A n k css := by
  refine ⟨h.2.1, ?_, h.2.2, fun hn => ?_⟩
  · rcases h.1.2 with ⟨_, h0⟩ | ⟨g, cap, cur, hv, _, _, h1, h2, _⟩
    · subst h0; unfold maxLen; omega
    · omega
  · rcases h.1.2 with ⟨_, h0⟩ | ⟨g, cap, cur, hv, _, hg, _⟩
    · omega
    · have hA : A = some ⟨g, 0, none⟩ := by injection hv
      subst hA
      refine ⟨_, rfl, (Array.getElem?_eq_some_iff.1 hg).1, fun j i c u hj hi => ?_⟩
      have hik : i < k := by have := (List.getElem?_eq_some_iff.1 hi).1; have := h.2.2 c (List.mem_of_getElem? hj); omega
      exact World.ownsRow.cells h.1 (g := g) rfl (j * k + i) u (by rw [flatten_at h.2.2 hj hik]; exact hi)
theorem MineR.below {B : Nat} (h : MineR w base e k v n css) (hb : Below B w w') (hg : ∀ g, v.ownBlock = some g → g < B) : MineR w' base e k v n css := by
  refine ⟨⟨h.1.1, ?_⟩, h.2⟩
  rcases h.1.2 with q | ⟨g, cap, cur, rfl, h1, h2, h3⟩
  · exact .inl q
  · exact .inr ⟨g, cap, cur, rfl, h1, (hb.block g (hg g rfl)).trans h2, h3⟩
/-- What is no cell of a row of one's own stays where only that row is written. -/
theorem byt_grown {B m : Nat} {A : Option Addr} {l : List UInt8} (hb : Byt w B A m l) (hg : w.grownBy w' v.ownBlock) (hne : ∀ ad, A = some ad → 0 < m → v.ownBlock ≠ some ad.block) : Byt w' B A m l :=
  ⟨hb.1, hb.2.1, fun hn => by
    obtain ⟨ad, he, hlt, hc⟩ := hb.2.2 hn
    refine ⟨ad, he, hlt, fun j u hu => hg.cell (hc j u hu) ?_⟩
    rw [block_of_add]
    exact fun q => hne ad he hn q.symm⟩
/-- A row whose cells are no bytes lies elsewhere than bytes do. -/
theorem MineR.apart (h : MineR w base e k v n css) (he : ∀ (g : Nat) (cur : Array Value), v.ownBlock = some g → w.heap[g]? = some (.cells cur e (0, 0)) → ∀ z, Value.int .u8 z ∉ cur) {B m : Nat} {A : Option Addr} {l : List UInt8} (hb : Byt w B A m l) : ∀ ad, A = some ad → 0 < m → v.ownBlock ≠ some ad.block := by
  intro ad hA hm q
  rcases h.1.2 with ⟨rfl, _⟩ | ⟨g, cap, cur, rfl, _, hg, _⟩
  · cases q
  · obtain ⟨ad', e', _, hc⟩ := hb.2.2 hm
    rw [hA] at e'
    injection e' with e'
    subst e'
    have hl : 0 < l.length := by have := hb.1; omega
    have h0 := hc 0 (l[0]) (List.getElem?_eq_getElem hl)
    have hz : ad.add 0 = ad := by simp [Addr.add]
    rw [hz] at h0
    have hgb : g = ad.block := by simpa [Value.ownBlock] using q
    unfold World.cell? at h0
    rw [← hgb, hg] at h0
    simp only at h0
    split at h0
    · cases h0
    · exact he g cur rfl hg _ (Array.mem_of_getElem? h0)
end

/-- append of elements that lie in memory: what is left. -/
theorem run_append_rws {P : Program} (w : World) {t ty e : TypeId} {z : Value} {k bytes : Nat} (ht : P.underlying t = some (.slice e)) (hi : (P.info? e).map (fun i => (i.zero, i.size, i.bytes)) = some (some z, k, bytes)) (hzs : z.cells.size = k) (hk : 0 < k)
    (base : Nat) (v : Value) (n : Nat) (css : List (List Value)) (hown : MineR w base e k v n css) (ad : Addr) (c : Nat) (x : List Value) (hx : x.length = k) (hc : ∀ (j : Nat) (u : Value), x[j]? = some u → w.cell? (ad.add j) = some u) (h1 : ∀ u ∈ x, u.oneCell' = true)
    (hbytes : (n + 1) * bytes ≤ 140737488355328) (h63 : n + 1 ≤ maxLen) (hbase : base ≤ w.heap.size) :
    ∃ v' w', (Builtin.append_ #[t, t] ty #[v, .slice (some ad) 1 c]).run P w = .ok v' w' ∧ MineR w' base e k v' (n + 1) (css ++ [x]) ∧ w.grownBy w' v.ownBlock ∧ (v'.ownBlock = v.ownBlock ∨ v'.ownBlock = some w.heap.size) := by
  obtain ⟨i0, hi0, hz0, hz1, hz2⟩ := info_parts hi
  obtain ⟨v', w', hrun, h2, h3, _, h5⟩ := run_append_own_at (P := P) w base t ty e i0 z k bytes ht hi0 hz0 hz1 hz2 hzs hk v n css.flatten hown.1 ad 1 c x (by omega) hc h1 h63 hbytes hbase
  refine ⟨v', w', hrun, ⟨by rw [List.flatten_append, List.flatten_singleton]; exact h2, by simp [hown.2.1], ?_⟩, h3, h5⟩
  intro d hd
  simp only [List.mem_append, List.mem_singleton] at hd
  rcases hd with hd | rfl
  · exact hown.2.2 d hd
  · exact hx
theorem wp_append_rws {P : Program} (w : World) {o : Oper} {a : Act} {K : Act → World → Prop} {Q : Exit → Act → World → Prop} (s x : Operand) (t : TypeId)
    (ho : o.op = .call { callee := .builtin .append, args := #[s, x], argTypes := #[t, t] }) {e : TypeId} {z : Value} {k bytes : Nat} (ht : P.underlying t = some (.slice e)) (hi : (P.info? e).map (fun i => (i.zero, i.size, i.bytes)) = some (some z, k, bytes)) (hzs : z.cells.size = k) (hk : 0 < k)
    (base : Nat) (v : Value) (n : Nat) (css : List (List Value)) (hs : a.eval s = v) (hown : MineR w base e k v n css) (ad : Addr) (c : Nat) (y : List Value) (hx : a.eval x = .slice (some ad) 1 c) (hy : y.length = k) (hc : ∀ (j : Nat) (u : Value), y[j]? = some u → w.cell? (ad.add j) = some u) (h1 : ∀ u ∈ y, u.oneCell' = true)
    (hbytes : (n + 1) * bytes ≤ 140737488355328) (h63 : n + 1 ≤ maxLen) (hbase : base ≤ w.heap.size)
    (h : ∀ v' w', MineR w' base e k v' (n + 1) (css ++ [y]) → w.grownBy w' v.ownBlock → (v'.ownBlock = v.ownBlock ∨ v'.ownBlock = some w.heap.size) → K (a.put o.dst v') w') : o.wp P a w K Q := by
  obtain ⟨v', w', hrun, h2, h3, h4⟩ := run_append_rws (P := P) w (ty := o.type) ht hi hzs hk base v n css hown ad c y hy hc h1 hbytes h63 hbase
  unfold Oper.wp execOp
  simp only [ho, resolve, invoke, builtin, Sem.run_bind, Sem.run_pure, Result.andThen_ok, List.map_toArray, List.map_cons, List.map_nil, hs, hx, hrun]
  exact h v' w' h2 h3 h4
theorem wpList_append_rws {P : Program} (w : World) {ops : Array Oper} {rest : List Oper} {o : Oper} {a : Act} {Q : Exit → Act → World → Prop} (hgd : o.guard = none) (s x : Operand) (t : TypeId)
    (ho : o.op = .call { callee := .builtin .append, args := #[s, x], argTypes := #[t, t] }) {e : TypeId} {z : Value} {k bytes : Nat} (ht : P.underlying t = some (.slice e)) (hi : (P.info? e).map (fun i => (i.zero, i.size, i.bytes)) = some (some z, k, bytes)) (hzs : z.cells.size = k) (hk : 0 < k)
    (base : Nat) (v : Value) (n : Nat) (css : List (List Value)) (hs : a.eval s = v) (hown : MineR w base e k v n css) (ad : Addr) (c : Nat) (y : List Value) (hx : a.eval x = .slice (some ad) 1 c) (hy : y.length = k) (hc : ∀ (j : Nat) (u : Value), y[j]? = some u → w.cell? (ad.add j) = some u) (h1 : ∀ u ∈ y, u.oneCell' = true)
    (hbytes : (n + 1) * bytes ≤ 140737488355328) (h63 : n + 1 ≤ maxLen) (hbase : base ≤ w.heap.size)
    (h : ∀ v' w', MineR w' base e k v' (n + 1) (css ++ [y]) → w.grownBy w' v.ownBlock → (v'.ownBlock = v.ownBlock ∨ v'.ownBlock = some w.heap.size) → wpList P ops Q rest (a.put o.dst v') w') : wpList P ops Q (o :: rest) a w :=
  wpList_plain hgd fun _ hK => wp_append_rws w s x t ho ht hi hzs hk base v n css hs hown ad c y hx hy hc h1 hbytes h63 hbase fun v' w' h2 h3 h4 => hK _ _ (h v' w' h2 h3 h4)


/-- The cells of a field; that cells are a value's, whose text lies below block B. -/
def fcs (f : Fd) : List Value := [.int .i64 f.k, .bool f.f]
def VIs (w : World) (B : Nat) (c : List Value) (v : Vl) : Prop := ∃ A n cp, c = [.int .u64 (v.u : Int), .int .i64 v.i, .slice A n cp, .bool v.t] ∧ Byt w B A n v.l ∧ n ≤ cp
/-- A slice of fields, of values, below block B. -/
def Fds (w : World) (B : Nat) (A : Option Addr) (n : Nat) (fs : List Fd) : Prop := Rws w B A n 2 (fs.map fcs)
def VIss (w : World) (B : Nat) (css : List (List Value)) (vs : List Vl) : Prop := css.length = vs.length ∧ ∀ (j : Nat) (c : List Value) (v : Vl), css[j]? = some c → vs[j]? = some v → VIs w B c v
def Vls (w : World) (B : Nat) (A : Option Addr) (n : Nat) (vs : List Vl) : Prop := ∃ css, Rws w B A n 4 css ∧ VIss w B css vs
section
variable {w w' : World} {B B' n : Nat} {A : Option Addr} {fs : List Fd} {vs : List Vl} {css : List (List Value)} {c : List Value} {v : Vl}
theorem Fds.length (h : Fds w B A n fs) : fs.length = n := by have := h.1; simpa using this
theorem Fds.none_ : Fds w B A 0 [] := Rws.none_
theorem Fds.below (h : Fds w B A n fs) (hb : Below B w w') : Fds w' B A n fs := Rws.below h hb
theorem Fds.more (h : Fds w B A n fs) (hB : B ≤ B') : Fds w B' A n fs := Rws.more h hB
theorem Fds.alloc (h : Fds w B A n fs) (hB : B ≤ w.heap.size) (o : Obj) : Fds (w.alloc o) B A n fs := Rws.alloc h hB o
theorem Fds.take (h : Fds w B A n fs) {m : Nat} (hm : m ≤ n) : Fds w B A m (fs.take m) := by unfold Fds; rw [List.map_take]; exact Rws.take h hm
theorem Fds.at_ {j : Nat} (h : Fds w B A n fs) (hj : j < n) : ∃ (ad : Addr) (f : Fd), A = some ad ∧ ad.block < B ∧ fs[j]? = some f ∧ w.cell? (ad.add (j * 2)) = some (.int .i64 f.k) ∧ w.cell? ⟨(ad.add (j * 2)).block, (ad.add (j * 2)).off + 1, none⟩ = some (.bool f.f) := by
  obtain ⟨ad, c, e, hb, hc, _, hu⟩ := Rws.at_ h hj
  rw [List.getElem?_map] at hc
  rcases hf : fs[j]? with _ | f
  · rw [hf] at hc; cases hc
  · rw [hf] at hc
    simp only [Option.map_some, Option.some.injEq] at hc
    subst hc
    have u1 := hu 1 _ rfl
    rw [← add_of_add] at u1
    exact ⟨ad, f, e, hb, rfl, hu 0 _ rfl, u1⟩
theorem VIs.keep (h : VIs w B c v) (hk : ∀ A n, Byt w B A n v.l → Byt w' B A n v.l) : VIs w' B c v := by
  obtain ⟨A, n, cp, e, hb, hn⟩ := h
  exact ⟨A, n, cp, e, hk A n hb, hn⟩
theorem VIs.more (h : VIs w B c v) (hB : B ≤ B') : VIs w B' c v := by
  obtain ⟨A, n, cp, e, hb, hn⟩ := h
  exact ⟨A, n, cp, e, hb.more hB, hn⟩
theorem VIss.keep (h : VIss w B css vs) (hk : ∀ A n l, Byt w B A n l → Byt w' B A n l) : VIss w' B css vs := ⟨h.1, fun j c v hc hv => (h.2 j c v hc hv).keep fun A n hb => hk A n _ hb⟩
theorem VIss.more (h : VIss w B css vs) (hB : B ≤ B') : VIss w B' css vs := ⟨h.1, fun j c v hc hv => (h.2 j c v hc hv).more hB⟩
theorem VIss.snoc (h : VIss w B css vs) (hc : VIs w B c v) : VIss w B (css ++ [c]) (vs ++ [v]) := by
  refine ⟨by simp [h.1], fun j d x hd hx => ?_⟩
  have hl := h.1
  by_cases e : j < css.length
  · rw [List.getElem?_append_left e] at hd
    rw [List.getElem?_append_left (by omega)] at hx
    exact h.2 j d x hd hx
  · rw [List.getElem?_append_right (by omega)] at hd
    rw [List.getElem?_append_right (by omega)] at hx
    have h0 : j - css.length = 0 := by have := (List.getElem?_eq_some_iff.1 hd).1; simp at this; omega
    rw [h0] at hd
    rw [← hl, h0] at hx
    simp at hd hx
    subst hd hx
    exact hc
theorem VIss.set (h : VIss w B css vs) (hc : VIs w B c v) (j : Nat) : VIss w B (css.set j c) (vs.set j v) := by
  refine ⟨by simp [h.1], fun i d x hd hx => ?_⟩
  rw [List.getElem?_set] at hd hx
  have hl := h.1
  by_cases e : j = i
  · subst e
    rw [if_pos rfl] at hd hx
    split at hd
    · rw [if_pos (by omega)] at hx
      simp at hd hx
      subst hd hx
      exact hc
    · cases hd
  · rw [if_neg e] at hd hx
    exact h.2 i d x hd hx
theorem VIss.nil : VIss w B [] [] := ⟨rfl, fun j c v hc => by simp at hc⟩
theorem Vls.length (h : Vls w B A n vs) : vs.length = n := by obtain ⟨css, h1, h2⟩ := h; have := h1.1; have := h2.1; omega
theorem Vls.none_ : Vls w B A 0 [] := ⟨[], Rws.none_, VIss.nil⟩
theorem Vls.below (h : Vls w B A n vs) (hb : Below B w w') : Vls w' B A n vs := by obtain ⟨css, h1, h2⟩ := h; exact ⟨css, h1.below hb, h2.keep fun _ _ _ hy => hy.below hb⟩
theorem Vls.more (h : Vls w B A n vs) (hB : B ≤ B') : Vls w B' A n vs := by obtain ⟨css, h1, h2⟩ := h; exact ⟨css, h1.more hB, h2.more hB⟩
theorem Vls.alloc (h : Vls w B A n vs) (hB : B ≤ w.heap.size) (o : Obj) : Vls (w.alloc o) B A n vs := by obtain ⟨css, h1, h2⟩ := h; exact ⟨css, h1.alloc hB o, h2.keep fun _ _ _ hy => hy.alloc hB o⟩
theorem Vls.take (h : Vls w B A n vs) {m : Nat} (hm : m ≤ n) : Vls w B A m (vs.take m) := by
  obtain ⟨css, h1, h2⟩ := h
  refine ⟨css.take m, h1.take hm, by simp [h2.1], fun j c v hc hv => ?_⟩
  rw [List.getElem?_take] at hc hv
  split at hc
  · rename_i q
    rw [if_pos q] at hv
    exact h2.2 j c v hc hv
  · cases hc
theorem Vls.at_ {j : Nat} (h : Vls w B A n vs) (hj : j < n) : ∃ (ad : Addr) (v : Vl) (A' : Option Addr) (m cp : Nat), A = some ad ∧ ad.block < B ∧ vs[j]? = some v ∧ w.cell? (ad.add (j * 4)) = some (.int .u64 (v.u : Int)) ∧ w.cell? ⟨(ad.add (j * 4)).block, (ad.add (j * 4)).off + 1, none⟩ = some (.int .i64 v.i) ∧
    w.cell? ⟨(ad.add (j * 4)).block, (ad.add (j * 4)).off + 2, none⟩ = some (.slice A' m cp) ∧ w.cell? ⟨(ad.add (j * 4)).block, (ad.add (j * 4)).off + 3, none⟩ = some (.bool v.t) ∧ Byt w B A' m v.l ∧ m ≤ cp := by
  have hl := h.length
  obtain ⟨css, h1, h2⟩ := h
  obtain ⟨ad, c, e, hb, hc, _, hu⟩ := h1.at_ hj
  obtain ⟨v, hv⟩ : ∃ v, vs[j]? = some v := ⟨_, List.getElem?_eq_getElem (l := vs) (i := j) (by omega)⟩
  obtain ⟨A', m, cp, rfl, hy, hm⟩ := h2.2 j c v hc hv
  have u1 := hu 1 _ rfl
  have u2 := hu 2 _ rfl
  have u3 := hu 3 _ rfl
  rw [← add_of_add] at u1 u2 u3
  exact ⟨ad, v, A', m, cp, e, hb, hv, hu 0 _ rfl, u1, u2, u3, hy, hm⟩
end

/-- Nothing in the row's block is a byte. -/
def NoB (w : World) (v : Value) : Prop := ∀ (g : Nat) (cur : Array Value) (t : TypeId) (z : Nat × Nat) (x : Int), v.ownBlock = some g → w.heap[g]? = some (.cells cur t z) → Value.int .u8 x ∉ cur
theorem NoB.keep {w w' : World} {v : Value} (h : NoB w v) (hk : ∀ g, v.ownBlock = some g → w'.heap[g]? = w.heap[g]?) : NoB w' v := fun g cur t z x hg hh => h g cur t z x hg ((hk g hg).symm.trans hh)
theorem append_nob {P : Program} (w : World) {t ty e : TypeId} {z : Value} {k bytes : Nat} (ht : P.underlying t = some (.slice e)) (hi : (P.info? e).map (fun i => (i.zero, i.size, i.bytes)) = some (some z, k, bytes))
    (base : Nat) (v : Value) (n : Nat) (css : List (List Value)) (hown : MineR w base e k v n css) (ad : Addr) (c : Nat) (x : List Value) (hx : x.length = k) (hc : ∀ (j : Nat) (u : Value), x[j]? = some u → w.cell? (ad.add j) = some u) (h1 : ∀ u ∈ x, u.oneCell' = true)
    (hbytes : (n + 1) * bytes ≤ 140737488355328) (h63 : n + 1 ≤ maxLen) (hN : NoB w v) (hz : ∀ y, Value.int .u8 y ∉ z.cells) (hxn : ∀ y, Value.int .u8 y ∉ x) (hcs : ∀ y, Value.int .u8 y ∉ css.flatten)
    {v' : Value} {w' : World} (hrun : (Builtin.append_ #[t, t] ty #[v, .slice (some ad) 1 c]).run P w = .ok v' w') : NoB w' v' := by
  obtain ⟨i0, hi0, hz0, hz1, hz2⟩ := info_parts hi
  subst hz1 hz2
  have hzc : ∀ y m, Value.int .u8 y ∉ Builtin.zeroCells z.cells m := by
    intro y m hm
    simp only [Builtin.zeroCells, Array.mem_map, Array.mem_range] at hm
    obtain ⟨a, ha, h⟩ := hm
    have h0 : 0 < z.cells.size := by
      rcases Nat.eq_zero_or_pos z.cells.size with q | q
      · rw [q] at ha; omega
      · exact q
    have hlt := Nat.mod_lt a h0
    rw [getElem!_pos z.cells _ hlt] at h
    exact hz y (by rw [← h]; exact Array.getElem_mem hlt)
  rcases hown.1.2 with ⟨rfl, rfl⟩ | ⟨g, cap, cur, rfl, hbg, hg, hnc, hcm, hcz, htake⟩
  · have hr := run_append_nil (P := P) w t ty e i0 z ht hi0 hz0 ad 1 c x (by omega) hc (by omega) (by omega) (by simp at hbytes; omega)
    rw [hr] at hrun
    simp only [Result.ok.injEq] at hrun
    obtain ⟨rfl, rfl⟩ := hrun
    intro g cur t' zz y hg hh
    simp only [Value.ownBlock, Option.some.injEq] at hg
    subst hg
    have e1 : (w.drew.alloc (.cells (x.toArray ++ Builtin.zeroCells z.cells (grownCap w 1 0 e - 1)) e)).heap[w.heap.size]? = some (.cells (x.toArray ++ Builtin.zeroCells z.cells (grownCap w 1 0 e - 1)) e) := heap_alloc_new w.drew _
    rw [e1] at hh
    simp only [Option.some.injEq, Obj.cells.injEq] at hh
    obtain ⟨rfl, _, _⟩ := hh
    simp only [Array.mem_append, List.mem_toArray]
    rintro (q | q)
    · exact hxn y q
    · exact hzc y _ q
  · by_cases hroom : n + 1 ≤ cap
    · have hfit : n * i0.size + x.length ≤ cur.size := by rw [hx, hcz, ← Nat.succ_mul]; exact Nat.mul_le_mul_right _ hroom
      have hr := run_append_room (P := P) w t ty e i0 ht hi0 g n cap cur hg ad 1 c x (by omega) hc h1 hroom hfit
      rw [hr] at hrun
      simp only [Result.ok.injEq] at hrun
      obtain ⟨rfl, rfl⟩ := hrun
      intro g' cur' t' zz y hg' hh
      simp only [Value.ownBlock, Option.some.injEq] at hg'
      subst hg'
      rw [setRow_heap w g cur _ e _ hg] at hh
      simp only [Option.some.injEq, Obj.cells.injEq] at hh
      obtain ⟨rfl, _, _⟩ := hh
      have hcur := hN g cur e (0, 0) y rfl hg
      simp only [List.mem_toArray, List.mem_append]
      rintro ((q | q) | q)
      · exact hcur (by have := List.mem_of_mem_take q; simpa using this)
      · exact hxn y q
      · exact hcur (by have := List.mem_of_mem_drop q; simpa using this)
    · have holds : ∀ j u, css.flatten[j]? = some u → w.cell? ((⟨g, 0, none⟩ : Addr).add j) = some u := hown.1.cells (g := g) rfl
      have hr := run_append_grow (P := P) w t ty e i0 z ht hi0 hz0 ⟨g, 0, none⟩ n cap css.flatten hown.1.1 holds ad 1 c x (by omega) hc (by omega) (by unfold maxLen at h63; omega) (growslice_fits (by omega) hbytes)
      rw [hr] at hrun
      simp only [Result.ok.injEq] at hrun
      obtain ⟨rfl, rfl⟩ := hrun
      intro g' cur' t' zz y hg' hh
      simp only [Value.ownBlock, Option.some.injEq] at hg'
      subst hg'
      have e1 : (w.drew.alloc (.cells (css.flatten.toArray ++ x.toArray ++ Builtin.zeroCells z.cells (grownCap w (n + 1) cap e - (n + 1))) e)).heap[w.heap.size]? = some (.cells (css.flatten.toArray ++ x.toArray ++ Builtin.zeroCells z.cells (grownCap w (n + 1) cap e - (n + 1))) e) := heap_alloc_new w.drew _
      rw [e1] at hh
      simp only [Option.some.injEq, Obj.cells.injEq] at hh
      obtain ⟨rfl, _, _⟩ := hh
      simp only [Array.mem_append, List.mem_toArray]
      rintro ((q | q) | q)
      · exact hcs y q
      · exact hxn y q
      · exact hzc y _ q
theorem viss_nob {w : World} {B : Nat} {css : List (List Value)} {vs : List Vl} (h : VIss w B css vs) (y : Int) : Value.int .u8 y ∉ css.flatten := by
  intro hm
  rw [List.mem_flatten] at hm
  obtain ⟨c, hc, hy⟩ := hm
  obtain ⟨j, hj, rfl⟩ := List.mem_iff_getElem.1 hc
  have hl := h.1
  obtain ⟨A, n, cp, e, _, _⟩ := h.2 j _ _ (List.getElem?_eq_getElem hj) (List.getElem?_eq_getElem (l := vs) (i := j) (by omega))
  rw [e] at hy
  simp at hy

/-- A row of values of the call's own. -/
def VRow (w : World) (base : Nat) (e : TypeId) (v : Value) (n : Nat) (vs : List Vl) : Prop := ∃ css, MineR w base e 4 v n css ∧ NoB w v ∧ VIss w w.heap.size css vs
section
variable {w w' : World} {base n : Nat} {e : TypeId} {v : Value} {vs : List Vl}
theorem VRow.nil (w : World) (base : Nat) (e : TypeId) : VRow w base e (.slice none 0 0) 0 [] := ⟨[], MineR.nil w base e 4, fun g cur t z x hg => by simp [Value.ownBlock] at hg, VIss.nil⟩
theorem VRow.length (h : VRow w base e v n vs) : vs.length = n := by obtain ⟨css, h1, _, h3⟩ := h; have := h1.2.1; have := h3.1; omega
theorem VRow.slice (h : VRow w base e v n vs) : ∃ A c, v = .slice A n c ∧ n ≤ c := by obtain ⟨css, h1, _⟩ := h; exact h1.slice
theorem VRow.below (h : VRow w base e v n vs) (hb : Below w.heap.size w w') : VRow w' base e v n vs := by
  obtain ⟨css, h1, h2, h3⟩ := h
  have hlt := fun g hg => (h1.lt g hg).2
  exact ⟨css, h1.below hb hlt, h2.keep fun g hg => hb.block g (hlt g hg), (h3.keep fun _ _ _ hy => hy.below hb).more hb.size⟩
theorem VRow.alloc (h : VRow w base e v n vs) (o : Obj) : VRow (w.alloc o) base e v n vs := h.below ((Below.refl w.heap.size w).alloc (Nat.le_refl _) o)
theorem VRow.drewN (h : VRow w base e v n vs) (m : Nat) : VRow (w.drewN m) base e v n vs := h
theorem VRow.vls {A : Option Addr} {c : Nat} (h : VRow w base e (.slice A n c) n vs) : Vls w w.heap.size A n vs := by obtain ⟨css, h1, _, h3⟩ := h; exact ⟨css, h1.rws, h3⟩
theorem VRow.lt (h : VRow w base e v n vs) : ∀ g, v.ownBlock = some g → base ≤ g ∧ g < w.heap.size := by obtain ⟨css, h1, _⟩ := h; exact h1.lt
/-- Bytes lie elsewhere. -/
theorem VRow.byt (h : VRow w base e v n vs) {B m : Nat} {A : Option Addr} {l : List UInt8} (hb : Byt w B A m l) (hg : w.grownBy w' v.ownBlock) : Byt w' B A m l := by
  obtain ⟨css, h1, h2, _⟩ := h
  exact byt_grown hb hg (h1.apart (fun g cur hg hh z => h2 g cur e (0, 0) z hg hh) hb)
end
theorem run_append_vrow {P : Program} (w : World) {t ty e : TypeId} {bytes : Nat} (ht : P.underlying t = some (.slice e)) (hi : (P.info? e).map (fun i => (i.zero, i.size, i.bytes)) = some (some (.agg #[.int .u64 0, .int .i64 0, .slice none 0 0, .bool false]), 4, bytes))
    (base : Nat) (v : Value) (n : Nat) (vs : List Vl) (hown : VRow w base e v n vs) (ad : Addr) (c : Nat) (x : List Value) (y : Vl) (hx : VIs w w.heap.size x y) (hc : ∀ (j : Nat) (u : Value), x[j]? = some u → w.cell? (ad.add j) = some u)
    (hbytes : (n + 1) * bytes ≤ 140737488355328) (h63 : n + 1 ≤ maxLen) (hbase : base ≤ w.heap.size) :
    ∃ v' w', (Builtin.append_ #[t, t] ty #[v, .slice (some ad) 1 c]).run P w = .ok v' w' ∧ VRow w' base e v' (n + 1) (vs ++ [y]) ∧ w.grownBy w' v.ownBlock ∧ (v'.ownBlock = v.ownBlock ∨ v'.ownBlock = some w.heap.size) := by
  have hV := hown
  obtain ⟨css, h1, h2, h3⟩ := hown
  obtain ⟨A', m', cp', rfl, hy, hm⟩ := hx
  have one : ∀ u ∈ [Value.int .u64 (y.u : Int), .int .i64 y.i, .slice A' m' cp', .bool y.t], u.oneCell' = true := by intro u hu; simp at hu; rcases hu with rfl | rfl | rfl | rfl <;> rfl
  obtain ⟨v', w', hrun, q2, q3, q4⟩ := run_append_rws (P := P) w (ty := ty) ht hi rfl (by decide) base v n css h1 ad c _ rfl hc one hbytes h63 hbase
  have hnb := append_nob (P := P) w ht hi base v n css h1 ad c _ rfl hc one hbytes h63 h2 (by simp [Value.cells]) (by simp) (viss_nob h3) hrun
  refine ⟨v', w', hrun, ⟨_, q2, hnb, ?_⟩, q3, q4⟩
  have k : ∀ A n l, Byt w w.heap.size A n l → Byt w' w.heap.size A n l := fun A n l hb => hV.byt hb q3
  exact ((h3.keep k).snoc ⟨A', m', cp', rfl, k _ _ _ hy, hm⟩).more q3.size
theorem wpList_append_vrow {P : Program} (w : World) {ops : Array Oper} {rest : List Oper} {o : Oper} {a : Act} {Q : Exit → Act → World → Prop} (hgd : o.guard = none) (s x : Operand) (t : TypeId)
    (ho : o.op = .call { callee := .builtin .append, args := #[s, x], argTypes := #[t, t] }) {e : TypeId} {bytes : Nat} (ht : P.underlying t = some (.slice e)) (hi : (P.info? e).map (fun i => (i.zero, i.size, i.bytes)) = some (some (.agg #[.int .u64 0, .int .i64 0, .slice none 0 0, .bool false]), 4, bytes))
    (base : Nat) (v : Value) (n : Nat) (vs : List Vl) (hs : a.eval s = v) (hown : VRow w base e v n vs) (ad : Addr) (c : Nat) (y : List Value) (z : Vl) (hx : a.eval x = .slice (some ad) 1 c) (hy : VIs w w.heap.size y z) (hc : ∀ (j : Nat) (u : Value), y[j]? = some u → w.cell? (ad.add j) = some u)
    (hbytes : (n + 1) * bytes ≤ 140737488355328) (h63 : n + 1 ≤ maxLen) (hbase : base ≤ w.heap.size)
    (h : ∀ v' w', VRow w' base e v' (n + 1) (vs ++ [z]) → w.grownBy w' v.ownBlock → (v'.ownBlock = v.ownBlock ∨ v'.ownBlock = some w.heap.size) → wpList P ops Q rest (a.put o.dst v') w') : wpList P ops Q (o :: rest) a w := by
  refine wpList_plain hgd fun _ hK => ?_
  obtain ⟨v', w', hrun, h2, h3, h4⟩ := run_append_vrow (P := P) w (ty := o.type) ht hi base v n vs hown ad c y z hy hc hbytes h63 hbase
  unfold Oper.wp execOp
  simp only [ho, resolve, invoke, builtin, Sem.run_bind, Sem.run_pure, Result.andThen_ok, List.map_toArray, List.map_cons, List.map_nil, hs, hx, hrun]
  exact hK _ _ (h v' w' h2 h3 h4)
end Go.Proofs.YtofccfbiappgaaaDoor

namespace Go.Proofs.YtofccfbiappgaaaDoor
open Go.RowKit

set_option maxRecDepth 100000 in
set_option maxHeartbeats 1000000 in
theorem tcheck_any (A : Option Addr) (n c B : Nat) (fs : List Fd) (w : World) (ha : Fds w B A n fs) (hB : B ≤ w.heap.size) :
    Calls Tryd.prog 46 #[.slice A n c] w fun e w' => e = .returned (.int .i64 (chkL fs)) ∧ Below w.heap.size w w' := by
  have HN := Lib.hid ha.length
  have HA := Lib.hid (fun V (h : Below w.heap.size w V) => (ha.more hB).below h)
  have hm : n ≤ 9223372036854775807 := by have := ha.2.1; unfold maxLen at this; omega
  clear ha
  by_cases hg : 255 < n
  · go_enter Tryd.func46, Tryd.ntmps46
    go_wp2
    go_ret
    exact ⟨ret_int (chkL_many (by rw [HN.out]; exact hg)).symm, Below.refl _ _⟩
  · go_enter Tryd.func46, Tryd.ntmps46
    go_wp2
    go_loopw [11] (fun i wr => ∃ k : Nat, k ≤ n ∧ i = .int .i64 k ∧ Hid (∀ (j : Nat) (f : Fd), j < k → fs[j]? = some f → 1 ≤ f.k ∧ f.k ≤ 10) ∧ Hid (Below w.heap.size w wr)) (fun i _ => n - (intOf i).toNat)
    case atStart => exact ⟨0, Nat.zero_le _, rfl, fun j f hj => by omega, Below.refl _ _⟩
    case round =>
      obtain ⟨k, hk, rfl, HO, HB⟩ := hrel
      by_cases h1 : k < n
      · obtain ⟨ad, f, rfl, hlt, hf, c0, c1⟩ := (HA.out _ HB.out).at_ h1
        have HF := Lib.hid hf
        clear hf
        go_wp2_with fail
        (with_reducible refine (check_any f.k f.f _).mono ?_)
        rintro e w1 ⟨rfl, h2⟩
        have B2 := Lib.hid ((HB.out.alloc HB.out.size _).trans (h2.mono (by have := HB.out.size; simp; omega)))
        clear h2 c0 c1
        by_cases hf : 1 ≤ f.k ∧ f.k ≤ 10
        · rw [show chk f.k = 0 from if_pos hf]
          go_wp2
          exact ⟨⟨k + 1, by omega, by go_num, fun j g hj hg => by
            by_cases e : j = k
            · subst e; rw [HF.out] at hg; injection hg with hg; subst hg; exact hf
            · exact HO.out j g (by omega) hg, B2⟩, by simp [intOf]; omega⟩
        · rw [show chk f.k = 9 from if_neg hf]
          go_wp2
          go_ret
          exact ⟨ret_int (chkL_bad (by rw [HN.out]; exact hg) HF.out hf).symm, B2.out⟩
      · go_wp2
        go_ret
        exact ⟨ret_int (chkL_ok (by rw [HN.out]; exact hg) (fun j f hj hf => HO.out j f (by have := HN.out; omega) hf)).symm, HB.out⟩
set_option maxRecDepth 100000 in
set_option maxHeartbeats 1000000 in
theorem rtcheck_any (A : Option Addr) (n c B : Nat) (fs : List Fd) (w : World) (ha : Fds w B A n fs) :
    Calls Tryd.prog 38 #[.slice A n c] w fun e w' => e = .returned (.int .i64 (chkL fs)) ∧ Still w w' := by
  have HN := Lib.hid ha.length
  have HA := Lib.hid ha
  have hm : n ≤ 9223372036854775807 := by have := ha.2.1; unfold maxLen at this; omega
  clear ha
  by_cases hg : 255 < n
  · go_enter Tryd.func38, Tryd.ntmps38
    go_wp2
    go_ret
    exact ⟨ret_int (chkL_many (by rw [HN.out]; exact hg)).symm, Still.refl _⟩
  · go_enter Tryd.func38, Tryd.ntmps38
    go_wp2
    go_loopw [3] (fun i wr => ∃ k : Nat, k ≤ n ∧ i = .int .i64 k ∧ Hid (∀ (j : Nat) (f : Fd), j < k → fs[j]? = some f → 1 ≤ f.k ∧ f.k ≤ 10) ∧ Still w wr) (fun i _ => n - (intOf i).toNat)
    case atStart => exact ⟨0, Nat.zero_le _, rfl, fun j f hj => by omega, Still.refl _⟩
    case round =>
      obtain ⟨k, hk, rfl, HO, q, rfl⟩ := hrel
      by_cases h1 : k < n
      · obtain ⟨ad, f, rfl, hlt, hf, c0, c1⟩ := HA.out.at_ h1
        have HF := Lib.hid hf
        clear hf
        have d0 : (k : Int) < (n : Int) := by omega
        by_cases hf : 1 ≤ f.k ∧ f.k ≤ 10
        · have e1 : ¬ f.k < 1 := by omega
          have e2 : ¬ 10 < f.k := by omega
          go_wp2
          exact ⟨⟨k + 1, by omega, by go_num, fun j g hj hg => by
            by_cases e : j = k
            · subst e; rw [HF.out] at hg; injection hg with hg; subst hg; exact hf
            · exact HO.out j g (by omega) hg, (by repeat (first | exact Still.drewN _ _ | exact Still.refl _ | apply Still.step))⟩, by simp [intOf]; omega⟩
        · by_cases e1 : f.k < 1
          · go_wp2
            go_ret
            exact ⟨ret_int (chkL_bad (by rw [HN.out]; exact hg) HF.out hf).symm, (by repeat (first | exact Still.drewN _ _ | exact Still.refl _ | apply Still.step))⟩
          · have e2 : 10 < f.k := by omega
            go_wp2
            go_ret
            exact ⟨ret_int (chkL_bad (by rw [HN.out]; exact hg) HF.out hf).symm, (by repeat (first | exact Still.drewN _ _ | exact Still.refl _ | apply Still.step))⟩
      · go_wp2
        go_ret
        exact ⟨ret_int (chkL_ok (by rw [HN.out]; exact hg) (fun j f hj hf => HO.out j f (by have := HN.out; omega) hf)).symm, Still.drewN _ _⟩
end Go.Proofs.YtofccfbiappgaaaDoor

namespace Go.Proofs.YtofccfbiappgaaaDoor
open Go.RowKit

set_option maxRecDepth 100000 in
theorem info_fd : (Tryd.prog.info? 65).map (fun i => (i.zero, i.size, i.bytes)) = some (some (.agg #[.int .i64 0, .bool false]), 2, 16) := by kernel_rfl
set_option maxRecDepth 100000 in
theorem info_vl : (Tryd.prog.info? 66).map (fun i => (i.zero, i.size, i.bytes)) = some (some (.agg #[.int .u64 0, .int .i64 0, .slice none 0 0, .bool false]), 4, 48) := by kernel_rfl
set_option maxRecDepth 100000 in
theorem info_rfd : (Tryd.prog.info? 77).map (fun i => (i.zero, i.size, i.bytes)) = some (some (.agg #[.int .i64 0, .bool false]), 2, 16) := by kernel_rfl
set_option maxRecDepth 100000 in
theorem info_rvl : (Tryd.prog.info? 47).map (fun i => (i.zero, i.size, i.bytes)) = some (some (.agg #[.int .u64 0, .int .i64 0, .slice none 0 0, .bool false]), 4, 48) := by kernel_rfl

/-- A row of fields of the call's own. -/
def FRow (w : World) (base : Nat) (e : TypeId) (v : Value) (n : Nat) (fs : List Fd) : Prop := MineR w base e 2 v n (fs.map fcs)
theorem FRow.snoc {w : World} {base : Nat} {e : TypeId} {v : Value} {n : Nat} {fs : List Fd} {f : Fd} (h : MineR w base e 2 v n (fs.map fcs ++ [fcs f])) : FRow w base e v n (fs ++ [f]) := by unfold FRow; rw [List.map_append]; exact h
theorem below_mine {B : Nat} {w w1 w2 : World} {base : Nat} {e : TypeId} {k : Nat} {v : Value} {n : Nat} {css : List (List Value)} (h : Below B w w1) (hm : MineR w1 base e k v n css) (hg : w1.grownBy w2 v.ownBlock) (hB : B ≤ base) (hs : B ≤ w1.heap.size) : Below B w w2 :=
  h.grown hg hs (fun g hg' => Nat.le_trans hB (hm.lt g hg').1)
theorem below_vrow {B : Nat} {w w1 w2 : World} {base : Nat} {e : TypeId} {v : Value} {n : Nat} {vs : List Vl} (h : Below B w w1) (hm : VRow w1 base e v n vs) (hg : w1.grownBy w2 v.ownBlock) (hB : B ≤ base) (hs : B ≤ w1.heap.size) : Below B w w2 :=
  h.grown hg hs (fun g hg' => Nat.le_trans hB (hm.lt g hg').1)
/-- What is left where fields, or values, are handed back. -/
def FsPost (w : World) (fs : List Fd) (e : Ending) (w' : World) : Prop := ∃ A n c, e = .returned (.slice A n c) ∧ Fds w' w'.heap.size A n fs ∧ n ≤ c ∧ Below w.heap.size w w'
def VsPost (w : World) (vs : List Vl) (e : Ending) (w' : World) : Prop := ∃ A n c, e = .returned (.slice A n c) ∧ Vls w' w'.heap.size A n vs ∧ n ≤ c ∧ Below w.heap.size w w'
theorem two_cells {w : World} {t : TypeId} {a b : Value} : ∀ (j : Nat) (u : Value), [a, b][j]? = some u → (w.alloc (.cells #[a, b] t)).cell? ((⟨w.heap.size, 0, none⟩ : Addr).add j) = some u := by
  intro j u hu
  have h := Two.new w t a b
  match j, hu with
  | 0, hu => simp at hu; subst hu; exact h.k0
  | 1, hu => simp at hu; subst hu; exact h.k1
theorem four_cells {w : World} {t : TypeId} {a b c d : Value} : ∀ (j : Nat) (u : Value), [a, b, c, d][j]? = some u → (w.alloc (.cells #[a, b, c, d] t)).cell? ((⟨w.heap.size, 0, none⟩ : Addr).add j) = some u := by
  intro j u hu
  have h := Four.new w t a b c d
  match j, hu with
  | 0, hu => simp at hu; subst hu; exact h.c0
  | 1, hu => simp at hu; subst hu; exact h.c1
  | 2, hu => simp at hu; subst hu; exact h.c2
  | 3, hu => simp at hu; subst hu; exact h.c3

set_option maxRecDepth 100000 in
set_option maxHeartbeats 1000000 in
theorem fields_any (A : Option Addr) (n c B : Nat) (fs : List Fd) (w : World) (ha : Fds w B A n fs) (hB : B ≤ w.heap.size) (hn : n ≤ 1000) :
    Calls Tryd.prog 22 #[.slice A n c] w (FsPost w fs) := by
  have HN := Lib.hid ha.length
  have HA := Lib.hid (fun V (h : Below w.heap.size w V) => (ha.more hB).below h)
  clear ha
  go_enter Tryd.func22, Tryd.ntmps22
  go_wp2
  go_loopw [3, 8] (fun v i wr => ∃ k : Nat, k ≤ n ∧ i = .int .i64 k ∧ Hid (FRow wr w.heap.size 65 v k (fs.take k)) ∧ Hid (Below w.heap.size w wr)) (fun _ i _ => n - (intOf i).toNat)
  case atStart => exact ⟨0, Nat.zero_le _, rfl, MineR.nil _ _ _ _, Below.refl _ _⟩
  case round =>
    obtain ⟨k, hk, rfl, HR, HB⟩ := hrel
    by_cases h1 : k < n
    · obtain ⟨ad, f, rfl, hlt, hf, c0, c1⟩ := (HA.out _ HB.out).at_ h1
      have HF := Lib.hid hf
      clear hf
      obtain ⟨A1, cp1, rfl, _⟩ := MineR.slice HR.out
      have HM := Lib.hid (fun (o1 o2 : Obj) => (MineR.alloc HR.out o1).alloc o2)
      have HS := Lib.hid (fun (o1 o2 : Obj) => show Below w.heap.size w ((wr.alloc o1).alloc o2) from (HB.out.alloc HB.out.size _).alloc (by have := HB.out.size; simp; omega) _)
      have hsz := HB.out.size
      go_wp2_with (at_builtin
                   refine wpList_append_rws ((wr.alloc (.cells #[.int .i64 f.k, .bool f.f] 77)).alloc (.cells #[.int .i64 f.k, .bool f.f] 65)) rfl (.tmp 12) (.tmp 14) _ rfl Tryd.underlying51 info_fd rfl (by decide) w.heap.size (.slice A1 k cp1) k ((fs.take k).map fcs) rfl (HM.out _ _) ⟨wr.heap.size + 1, 0, none⟩ 1 (fcs f) rfl rfl (by have := two_cells (w := wr.alloc (.cells #[.int .i64 f.k, .bool f.f] 77)) (t := 65) (a := .int .i64 f.k) (b := .bool f.f); rwa [World.size_alloc] at this) (by intro u hu; simp [fcs] at hu; rcases hu with rfl | rfl <;> rfl) (by omega) (by unfold maxLen; omega) (by simp; omega) ?_
                   intro v2 w2 hm2 hg2 _
                   have M2 := Lib.hid (FRow.snoc hm2)
                   have C2 := Lib.hid (below_mine (HS.out _ _) (HM.out _ _) hg2 (Nat.le_refl _) (by simp; omega))
                   clear hm2 hg2)
      go_wp2
      exact ⟨⟨k + 1, by omega, by go_num, by rw [take_step HF.out]; exact M2, C2⟩, by simp [intOf]; omega⟩
    · obtain rfl : k = n := by omega
      obtain ⟨A1, cp1, rfl, hc1⟩ := MineR.slice HR.out
      go_wp2
      go_ret
      exact ⟨A1, k, cp1, rfl, by have := MineR.rws HR.out; rwa [List.take_of_length_le (by rw [HN.out]; exact Nat.le_refl _)] at this, hc1, HB.out⟩

set_option maxRecDepth 100000 in
set_option maxHeartbeats 1000000 in
theorem values_any (A : Option Addr) (n c B : Nat) (vs : List Vl) (w : World) (ha : Vls w B A n vs) (hB : B ≤ w.heap.size) (hn : n ≤ 1000) :
    Calls Tryd.prog 23 #[.slice A n c] w (VsPost w vs) := by
  have HN := Lib.hid ha.length
  have HA := Lib.hid (fun V (h : Below w.heap.size w V) => (ha.more hB).below h)
  clear ha
  go_enter Tryd.func23, Tryd.ntmps23
  go_wp2
  go_loopw [3, 8] (fun v i wr => ∃ k : Nat, k ≤ n ∧ i = .int .i64 k ∧ Hid (VRow wr w.heap.size 66 v k (vs.take k)) ∧ Hid (Below w.heap.size w wr)) (fun _ i _ => n - (intOf i).toNat)
  case atStart => exact ⟨0, Nat.zero_le _, rfl, VRow.nil _ _ _, Below.refl _ _⟩
  case round =>
    obtain ⟨k, hk, rfl, HR, HB⟩ := hrel
    by_cases h1 : k < n
    · obtain ⟨ad, v, A', m', cp', rfl, hlt, hv, c0, c1, c2, c3, hy, hm⟩ := (HA.out _ HB.out).at_ h1
      have HV := Lib.hid hv
      have hsz := HB.out.size
      have HY := Lib.hid (show ∀ (o1 o2 : Obj), VIs ((wr.alloc o1).alloc o2) ((wr.alloc o1).alloc o2).heap.size [.int .u64 (v.u : Int), .int .i64 v.i, .slice A' m' cp', .bool v.t] v from
        fun o1 o2 => ⟨A', m', cp', rfl, ((hy.alloc hsz o1).alloc (by simp; omega) o2).more (by simp; omega), hm⟩)
      clear hv hy
      obtain ⟨A1, cp1, rfl, _⟩ := VRow.slice HR.out
      have HM := Lib.hid (fun (o1 o2 : Obj) => (VRow.alloc HR.out o1).alloc o2)
      have HS := Lib.hid (fun (o1 o2 : Obj) => show Below w.heap.size w ((wr.alloc o1).alloc o2) from (HB.out.alloc HB.out.size _).alloc (by have := HB.out.size; simp; omega) _)
      go_wp2_with (at_builtin
                   refine wpList_append_vrow ((wr.alloc (.cells #[.int .u64 (v.u : Int), .int .i64 v.i, .slice A' m' cp', .bool v.t] 47)).alloc (.cells #[.int .u64 (v.u : Int), .int .i64 v.i, .slice A' m' cp', .bool v.t] 66)) rfl (.tmp 12) (.tmp 22) _ rfl Tryd.underlying53 info_vl w.heap.size (.slice A1 k cp1) k (vs.take k) rfl (HM.out _ _) ⟨wr.heap.size + 1, 0, none⟩ 1 [.int .u64 (v.u : Int), .int .i64 v.i, .slice A' m' cp', .bool v.t] v rfl (HY.out _ _) (by have := four_cells (w := wr.alloc (.cells #[.int .u64 (v.u : Int), .int .i64 v.i, .slice A' m' cp', .bool v.t] 47)) (t := 66) (a := .int .u64 (v.u : Int)) (b := .int .i64 v.i) (c := .slice A' m' cp') (d := .bool v.t); rwa [World.size_alloc] at this) (by omega) (by unfold maxLen; omega) (by simp; omega) ?_
                   intro v2 w2 hm2 hg2 _
                   have M2 := Lib.hid hm2
                   have C2 := Lib.hid (below_vrow (HS.out _ _) (HM.out _ _) hg2 (Nat.le_refl _) (by simp; omega))
                   clear hm2 hg2)
      go_wp2
      exact ⟨⟨k + 1, by omega, by go_num, by rw [take_step HV.out]; exact M2, C2⟩, by simp [intOf]; omega⟩
    · obtain rfl : k = n := by omega
      obtain ⟨A1, cp1, rfl, hc1⟩ := VRow.slice HR.out
      go_wp2
      go_ret
      exact ⟨A1, k, cp1, rfl, by have := VRow.vls HR.out; rwa [List.take_of_length_le (by rw [HN.out]; exact Nat.le_refl _)] at this, hc1, HB.out⟩
/-- The value of nothing; a row of such. -/
def zV : Vl := ⟨0, 0, [], false⟩
def zcs : List Value := [.int .u64 0, .int .i64 0, .slice none 0 0, .bool false]
theorem zcs_is (w : World) (B : Nat) : VIs w B zcs zV := ⟨none, 0, 0, rfl, Byt.none_, Nat.le_refl _⟩
theorem zeros_flat (n : Nat) : (List.replicate n zcs).flatten = (madeCells (Value.agg #[.int .u64 0, .int .i64 0, .slice none 0 0, .bool false]).cells (n * 4)).toList := by
  apply List.ext_getElem?
  intro j
  have hl : ∀ c ∈ List.replicate n zcs, c.length = 4 := by intro c hc; rw [List.mem_replicate] at hc; rw [hc.2]; rfl
  rcases Nat.lt_or_ge j (n * 4) with h | h
  · have hq : j = j / 4 * 4 + j % 4 := by omega
    have hlt : j % 4 < 4 := Nat.mod_lt _ (by decide)
    have hj : (List.replicate n zcs)[j / 4]? = some zcs := by rw [List.getElem?_replicate, if_pos (by omega)]
    have e1 : (List.replicate n zcs).flatten[j]? = zcs[j % 4]? := by rw [hq]; rw [flatten_at hl hj hlt]; congr 1; omega
    rw [e1]
    rcases (by omega : j % 4 = 0 ∨ j % 4 = 1 ∨ j % 4 = 2 ∨ j % 4 = 3) with q | q | q | q <;> simp [madeCells, Value.cells, h, q, zcs]
  · rw [List.getElem?_eq_none (by rw [flatten_len hl]; simpa using h), List.getElem?_eq_none (by simp [madeCells]; exact h)]
set_option maxRecDepth 100000 in
theorem make_vals (w : World) {n : Nat} (hn : n ≤ 1000) : (Instr.makeSlice 53 (.int .i64 (n : Int)) (.int .i64 (n : Int))).run Tryd.prog w = .ok (.slice (some ⟨w.heap.size, 0, none⟩) n n) (w.alloc (.cells (List.replicate n zcs).flatten.toArray 66)) := by
  obtain ⟨i0, hi0, hz0, hz1, hz2⟩ := info_parts info_vl
  have h := run_make (P := Tryd.prog) w 53 66 i0 _ Tryd.underlying53 hi0 hz0 .i64 .i64 (n : Int) (n : Int) (by omega) (Int.le_refl _) (by rw [hz2]; omega) (by omega)
  rw [Int.toNat_natCast, hz1] at h
  rw [zeros_flat]
  exact h
theorem made_row (w : World) (n : Nat) (hn : n ≤ 1000) (e : TypeId) : VRow (w.alloc (.cells (List.replicate n zcs).flatten.toArray e)) w.heap.size e (.slice (some ⟨w.heap.size, 0, none⟩) n n) n (List.replicate n zV) := by
  have hl : ∀ c ∈ List.replicate n zcs, c.length = 4 := by intro c hc; rw [List.mem_replicate] at hc; rw [hc.2]; rfl
  have hv : VIss (w.alloc (.cells (List.replicate n zcs).flatten.toArray e)) (w.alloc (.cells (List.replicate n zcs).flatten.toArray e)).heap.size (List.replicate n zcs) (List.replicate n zV) := by
    refine ⟨by simp, fun j c v hc hv => ?_⟩
    rw [List.getElem?_replicate] at hc hv
    split at hc
    · rename_i q
      rw [if_pos q] at hv
      injection hc with hc
      injection hv with hv
      subst hc hv
      exact zcs_is _ _
    · cases hc
  refine ⟨List.replicate n zcs, ⟨?_, by simp, hl⟩, ?_, hv⟩
  · have := World.ownsRow_lit (base := w.heap.size) (e := e) (size := 4) w (List.replicate n zcs).flatten.toArray n (Nat.le_refl _) (by unfold maxLen; omega) (by rw [List.size_toArray, flatten_len hl]; simp)
    simpa using this
  · intro g cur t z x hg hh
    simp only [Value.ownBlock, Option.some.injEq] at hg
    subst hg
    rw [heap_alloc_new] at hh
    simp only [Option.some.injEq, Obj.cells.injEq] at hh
    obtain ⟨rfl, _, _⟩ := hh
    rw [List.mem_toArray]
    exact viss_nob hv x
theorem VRow.there {w : World} {base : Nat} {e : TypeId} {g n c : Nat} {vs : List Vl} (h : VRow w base e (.slice (some ⟨g, 0, none⟩) n c) n vs) {j : Nat} (hj : j < n) :
    (∃ x0 x1 x2 x3, w.cell? ⟨g, j * 4, none⟩ = some x0 ∧ w.cell? ⟨g, j * 4 + 1, none⟩ = some x1 ∧ w.cell? ⟨g, j * 4 + 2, none⟩ = some x2 ∧ w.cell? ⟨g, j * 4 + 3, none⟩ = some x3) ∧ ∀ o, w.frozen? ⟨g, o, none⟩ = false := by
  obtain ⟨css, h1, _, _⟩ := h
  have hl := h1.1.1
  have at_ : ∀ i, i < 4 → ∃ x, w.cell? ⟨g, j * 4 + i, none⟩ = some x := fun i hi => by
    rw [h1.1.cellAt (j * 4 + i) (by omega)]
    exact ⟨_, List.getElem?_eq_getElem (by omega)⟩
  obtain ⟨x0, e0⟩ := at_ 0 (by decide)
  obtain ⟨x1, e1⟩ := at_ 1 (by decide)
  obtain ⟨x2, e2⟩ := at_ 2 (by decide)
  obtain ⟨x3, e3⟩ := at_ 3 (by decide)
  exact ⟨⟨x0, x1, x2, x3, e0, e1, e2, e3⟩, fun o => h1.1.frozenAt o⟩
/-- A value stored into a row of the call's own. -/
theorem VRow.store {w : World} {base : Nat} {e : TypeId} {g n c : Nat} {vs : List Vl} (h : VRow w base e (.slice (some ⟨g, 0, none⟩) n c) n vs) (j : Nat) (hj : j < n) (v : Vl) {A : Option Addr} {m cp : Nat} (hy : Byt w w.heap.size A m v.l) (hm : m ≤ cp) :
    VRow ((((w.setCell ⟨g, j * 4, none⟩ (.int .u64 (v.u : Int))).setCell ⟨g, j * 4 + 1, none⟩ (.int .i64 v.i)).setCell ⟨g, j * 4 + 2, none⟩ (.slice A m cp)).setCell ⟨g, j * 4 + 3, none⟩ (.bool v.t)) base e (.slice (some ⟨g, 0, none⟩) n c) n (vs.set j v) ∧
    w.grownBy ((((w.setCell ⟨g, j * 4, none⟩ (.int .u64 (v.u : Int))).setCell ⟨g, j * 4 + 1, none⟩ (.int .i64 v.i)).setCell ⟨g, j * 4 + 2, none⟩ (.slice A m cp)).setCell ⟨g, j * 4 + 3, none⟩ (.bool v.t)) (some g) := by
  have hV := h
  obtain ⟨css, h1, h2, h3⟩ := h
  have s1 := h1.1.stored (j * 4) (.int .u64 (v.u : Int))
  have s2 := s1.1.stored (j * 4 + 1) (.int .i64 v.i)
  have s3 := s2.1.stored (j * 4 + 2) (.slice A m cp)
  have s4 := s3.1.stored (j * 4 + 3) (.bool v.t)
  have hg : w.grownBy ((((w.setCell ⟨g, j * 4, none⟩ (.int .u64 (v.u : Int))).setCell ⟨g, j * 4 + 1, none⟩ (.int .i64 v.i)).setCell ⟨g, j * 4 + 2, none⟩ (.slice A m cp)).setCell ⟨g, j * 4 + 3, none⟩ (.bool v.t)) (some g) := by
    refine ⟨rfl, rfl, rfl, by simp, fun k hk hne => ?_⟩
    rw [s4.2.block k (by simpa using hk) hne, s3.2.block k (by simpa using hk) hne, s2.2.block k (by simpa using hk) hne, s1.2.block k hk hne]
  refine ⟨⟨css.set j [.int .u64 (v.u : Int), .int .i64 v.i, .slice A m cp, .bool v.t], ⟨?_, by simp [h1.2.1], ?_⟩, ?_, ?_⟩, hg⟩
  · have hj' : j < css.length := by have := h1.2.1; omega
    have e : (css.set j [.int .u64 (v.u : Int), .int .i64 v.i, .slice A m cp, .bool v.t]).flatten = (((css.flatten.set (j * 4) (.int .u64 (v.u : Int))).set (j * 4 + 1) (.int .i64 v.i)).set (j * 4 + 2) (.slice A m cp)).set (j * 4 + 3) (.bool v.t) := by
      clear s1 s2 s3 s4 hg h3
      have hl := h1.2.2
      clear h1 hV hj hm
      induction css generalizing j with
      | nil => simp at hj'
      | cons d css ih =>
        have hd : d.length = 4 := hl d (by simp)
        match d, hd with
        | [d0, d1, d2, d3], _ =>
          cases j with
          | zero => simp
          | succ j =>
            have := ih j (by simpa using hj') (fun c hc => hl c (by simp [hc]))
            simp only [List.set_cons_succ, List.flatten_cons, this]
            have e4 : (j + 1) * 4 = j * 4 + 4 := by omega
            rw [e4]
            simp
    rw [e]
    exact s4.1
  · intro d hd
    rcases List.mem_or_eq_of_mem_set hd with q | q
    · exact h1.2.2 d q
    · rw [q]; rfl
  · intro g' cur t z x hg' hh
    simp only [Value.ownBlock, Option.some.injEq] at hg'
    subst hg'
    rcases h1.1.2 with ⟨q, _⟩ | ⟨g0, cap, cur0, q, _, hc0, _⟩
    · simp at q
    · simp only [Value.slice.injEq, Option.some.injEq, Addr.mk.injEq, and_true, true_and] at q
      obtain ⟨rfl, rfl⟩ := q
      have n0 := h2 g cur0 e (0, 0) x rfl hc0
      have t1 := heap_setCell_same w g (j * 4) cur0 e (.int .u64 (v.u : Int)) hc0
      have t2 := heap_setCell_same _ g (j * 4 + 1) _ e (.int .i64 v.i) t1
      have t3 := heap_setCell_same _ g (j * 4 + 2) _ e (.slice A m cp) t2
      have t4 := heap_setCell_same _ g (j * 4 + 3) _ e (.bool v.t) t3
      rw [t4] at hh
      simp only [Option.some.injEq, Obj.cells.injEq] at hh
      obtain ⟨rfl, _, _⟩ := hh
      intro hx
      have go : ∀ {a : Array Value} {i : Nat} {u : Value}, Value.int .u8 x ∈ a.setIfInBounds i u → u ≠ .int .u8 x → Value.int .u8 x ∈ a := fun {a i u} hm hne => by
        rcases Array.mem_or_eq_of_mem_setIfInBounds hm with q | q
        · exact q
        · exact absurd q.symm hne
      exact n0 (go (go (go (go hx (by simp)) (by simp)) (by simp)) (by simp))
  · have k : ∀ A n l, Byt w w.heap.size A n l → Byt _ w.heap.size A n l := fun A n l hb => hV.byt hb hg
    have := (h3.keep k).set ⟨A, m, cp, rfl, k _ _ _ hy, hm⟩ j
    simpa using this
end Go.Proofs.YtofccfbiappgaaaDoor
