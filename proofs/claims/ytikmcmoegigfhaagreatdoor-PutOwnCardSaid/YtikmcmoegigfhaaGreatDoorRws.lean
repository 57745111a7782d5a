/-
  Words for memory: a slice of elements of some cells each, that came in or was made, append of one element. Nothing of the program is used.
-/
import Derived.Test.YtikmcmoegigfhaaGreatDoorMem
import Derived.Deep.MidRow
import Derived.Laws.ResultCell
namespace Go.Proofs.YtikmcmoegigfhaaGreatDoor
open Go.RowKit

theorem flatten_at {α : Type} {k : Nat} {css : List (List α)} (h : ∀ c ∈ css, c.length = k) {j i : Nat} {c : List α} (hj : css[j]? = some c) (hi : i < k) : css.flatten[j * k + i]? = c[i]? := by
  induction css generalizing j with
  | nil => simp at hj
  | cons d css ih =>
    have hd : d.length = k := h d (by simp)
    cases j with
    | zero =>
      simp at hj
      subst hj
      rw [List.flatten_cons, Nat.zero_mul, Nat.zero_add, List.getElem?_append_left (by omega)]
    | succ j =>
      have e : (j + 1) * k + i = d.length + (j * k + i) := by rw [hd, Nat.add_mul]; omega
      rw [List.flatten_cons, e, List.getElem?_append_right (by omega), Nat.add_sub_cancel_left]
      exact ih (fun c hc => h c (by simp [hc])) (by simpa using hj)
theorem flatten_len {α : Type} {k : Nat} {css : List (List α)} (h : ∀ c ∈ css, c.length = k) : css.flatten.length = css.length * k := by
  induction css with
  | nil => simp
  | cons d css ih =>
    rw [List.flatten_cons, List.length_append, ih (fun c hc => h c (by simp [hc])), h d (by simp), List.length_cons, Nat.add_mul]
    omega

/-- The slice value '.slice A n _' holds n elements of k cells each, their cells css, and lies below block B. -/
def Rws (w : World) (B : Nat) (A : Option Addr) (n k : Nat) (css : List (List Value)) : Prop :=
  css.length = n ∧ n ≤ maxLen ∧ (∀ c ∈ css, c.length = k) ∧ (0 < n → ∃ ad, A = some ad ∧ ad.block < B ∧ ∀ (j i : Nat) (c : List Value) (u : Value), css[j]? = some c → c[i]? = some u → w.cell? (ad.add (j * k + i)) = some u)
section
variable {w w' : World} {B B' n k : Nat} {A : Option Addr} {css : List (List Value)}
theorem Rws.none_ : Rws w B A 0 k [] := ⟨rfl, by unfold maxLen; omega, by simp, fun h => absurd h (by omega)⟩
theorem Rws.keep (h : Rws w B A n k css) (hk : ∀ p : Addr, p.block < B → w'.cell? p = w.cell? p) : Rws w' B A n k css :=
  ⟨h.1, h.2.1, h.2.2.1, fun hn => by
    obtain ⟨ad, e, hb, hc⟩ := h.2.2.2 hn
    exact ⟨ad, e, hb, fun j i c u hj hi => (hk _ (by rw [block_of_add]; exact hb)).trans (hc j i c u hj hi)⟩⟩
theorem Rws.below (h : Rws w B A n k css) (hb : Below B w w') : Rws w' B A n k css := h.keep fun _ hp => hb.cell hp
theorem Rws.more (h : Rws w B A n k css) (hB : B ≤ B') : Rws w B' A n k css :=
  ⟨h.1, h.2.1, h.2.2.1, fun hn => by
    obtain ⟨ad, e, hb, hc⟩ := h.2.2.2 hn
    exact ⟨ad, e, by omega, hc⟩⟩
theorem Rws.drewN (h : Rws w B A n k css) (m : Nat) : Rws (w.drewN m) B A n k css := h
theorem Rws.alloc (h : Rws w B A n k css) (hB : B ≤ w.heap.size) (o : Obj) : Rws (w.alloc o) B A n k css := h.keep fun p hp => World.cell?_alloc_lt w o p (by omega)
theorem Rws.at_ {j : Nat} (h : Rws w B A n k css) (hj : j < n) : ∃ (ad : Addr) (c : List Value), A = some ad ∧ ad.block < B ∧ css[j]? = some c ∧ c.length = k ∧ ∀ (i : Nat) (u : Value), c[i]? = some u → w.cell? (ad.add (j * k + i)) = some u := by
  obtain ⟨ad, e, hb, hc⟩ := h.2.2.2 (by omega)
  have hl : j < css.length := by have := h.1; omega
  have hq := List.getElem?_eq_getElem hl
  exact ⟨ad, css[j], e, hb, hq, h.2.2.1 _ (List.getElem_mem hl), fun i u hu => hc j i _ u hq hu⟩
theorem Rws.take (h : Rws w B A n k css) {m : Nat} (hm : m ≤ n) : Rws w B A m k (css.take m) := by
  refine ⟨by have := h.1; simp; omega, by have := h.2.1; omega, fun c hc => h.2.2.1 c (List.mem_of_mem_take hc), fun hn => ?_⟩
  obtain ⟨ad, e, hb, hc⟩ := h.2.2.2 (by omega)
  exact ⟨ad, e, hb, fun j i c u hj hi => hc j i c u (by rw [List.getElem?_take] at hj; split at hj; exact hj; cases hj) hi⟩
end

/-- A row of the call's own: elements of k cells each, of type e, in blocks from base on. -/
def MineR (w : World) (base : Nat) (e : TypeId) (k : Nat) (v : Value) (n : Nat) (css : List (List Value)) : Prop := w.ownsRow base e k v n css.flatten ∧ css.length = n ∧ ∀ c ∈ css, c.length = k
section
variable {w w' : World} {base : Nat} {e : TypeId} {k n : Nat} {v : Value} {css : List (List Value)}
theorem MineR.nil (w : World) (base : Nat) (e : TypeId) (k : Nat) : MineR w base e k (.slice none 0 0) 0 [] := ⟨World.ownsRow_nil w base e k, rfl, by simp⟩
theorem MineR.slice (h : MineR w base e k v n css) : ∃ A c, v = .slice A n c ∧ n ≤ c := by
  rcases h.1.2 with ⟨rfl, rfl⟩ | ⟨g, cap, cur, rfl, _, _, hc, _⟩
  · exact ⟨_, _, rfl, Nat.le_refl _⟩
  · exact ⟨_, _, rfl, hc⟩
theorem MineR.alloc (h : MineR w base e k v n css) (o : Obj) : MineR (w.alloc o) base e k v n css := ⟨h.1.alloc o, h.2⟩
theorem MineR.drewN (h : MineR w base e k v n css) (m : Nat) : MineR (w.drewN m) base e k v n css := h
theorem MineR.lt (h : MineR w base e k v n css) : ∀ g, v.ownBlock = some g → base ≤ g ∧ g < w.heap.size := h.1.lt
theorem MineR.rws {A : Option Addr} {c : Nat} (h : MineR w base e k (.slice A n c) n css) : Rws w w.heap.size A n k css := by
  refine ⟨h.2.1, ?_, h.2.2, fun hn => ?_⟩
  · rcases h.1.2 with ⟨_, h0⟩ | ⟨g, cap, cur, hv, _, _, h1, h2, _⟩
    · subst h0; unfold maxLen; omega
    · omega
  · rcases h.1.2 with ⟨_, h0⟩ | ⟨g, cap, cur, hv, _, hg, _⟩
    · omega
    · have hA : A = some ⟨g, 0, none⟩ := by injection hv
      subst hA
      refine ⟨_, rfl, (Array.getElem?_eq_some_iff.1 hg).1, fun j i c u hj hi => ?_⟩
      have hik : i < k := by have := (List.getElem?_eq_some_iff.1 hi).1; have := h.2.2 c (List.mem_of_getElem? hj); omega
      exact World.ownsRow.cells h.1 (g := g) rfl (j * k + i) u (by rw [flatten_at h.2.2 hj hik]; exact hi)
theorem MineR.below {B : Nat} (h : MineR w base e k v n css) (hb : Below B w w') (hg : ∀ g, v.ownBlock = some g → g < B) : MineR w' base e k v n css := by
  refine ⟨⟨h.1.1, ?_⟩, h.2⟩
  rcases h.1.2 with q | ⟨g, cap, cur, rfl, h1, h2, h3⟩
  · exact .inl q
  · exact .inr ⟨g, cap, cur, rfl, h1, (hb.block g (hg g rfl)).trans h2, h3⟩
/-- What is no cell of a row of one's own stays where only that row is written. -/
theorem byt_grown {B m : Nat} {A : Option Addr} {l : List UInt8} (hb : Byt w B A m l) (hg : w.grownBy w' v.ownBlock) (hne : ∀ ad, A = some ad → 0 < m → v.ownBlock ≠ some ad.block) : Byt w' B A m l :=
  ⟨hb.1, hb.2.1, fun hn => by
    obtain ⟨ad, he, hlt, hc⟩ := hb.2.2 hn
    refine ⟨ad, he, hlt, fun j u hu => hg.cell (hc j u hu) ?_⟩
    rw [block_of_add]
    exact fun q => hne ad he hn q.symm⟩
/-- A row whose cells are no bytes lies elsewhere than bytes do. -/
theorem MineR.apart (h : MineR w base e k v n css) (he : ∀ (g : Nat) (cur : Array Value), v.ownBlock = some g → w.heap[g]? = some (.cells cur e (0, 0)) → ∀ z, Value.int .u8 z ∉ cur) {B m : Nat} {A : Option Addr} {l : List UInt8} (hb : Byt w B A m l) : ∀ ad, A = some ad → 0 < m → v.ownBlock ≠ some ad.block := by
  intro ad hA hm q
  rcases h.1.2 with ⟨rfl, _⟩ | ⟨g, cap, cur, rfl, _, hg, _⟩
  · cases q
  · obtain ⟨ad', e', _, hc⟩ := hb.2.2 hm
    rw [hA] at e'
    injection e' with e'
    subst e'
    have hl : 0 < l.length := by have := hb.1; omega
    have h0 := hc 0 (l[0]) (List.getElem?_eq_getElem hl)
    have hz : ad.add 0 = ad := by simp [Addr.add]
    rw [hz] at h0
    have hgb : g = ad.block := by simpa [Value.ownBlock] using q
    unfold World.cell? at h0
    rw [← hgb, hg] at h0
    simp only at h0
    split at h0
    · cases h0
    · exact he g cur rfl hg _ (Array.mem_of_getElem? h0)
end

/-- append of elements that lie in memory: what is left. -/
theorem run_append_rws {P : Program} (w : World) {t ty e : TypeId} {z : Value} {k bytes : Nat} (ht : P.underlying t = some (.slice e)) (hi : (P.info? e).map (fun i => (i.zero, i.size, i.bytes)) = some (some z, k, bytes)) (hzs : z.cells.size = k) (hk : 0 < k)
    (base : Nat) (v : Value) (n : Nat) (css : List (List Value)) (hown : MineR w base e k v n css) (ad : Addr) (c : Nat) (x : List Value) (hx : x.length = k) (hc : ∀ (j : Nat) (u : Value), x[j]? = some u → w.cell? (ad.add j) = some u) (h1 : ∀ u ∈ x, u.oneCell' = true)
    (hbytes : (n + 1) * bytes ≤ 140737488355328) (h63 : n + 1 ≤ maxLen) (hbase : base ≤ w.heap.size) :
    ∃ v' w', (Builtin.append_ #[t, t] ty #[v, .slice (some ad) 1 c]).run P w = .ok v' w' ∧ MineR w' base e k v' (n + 1) (css ++ [x]) ∧ w.grownBy w' v.ownBlock ∧ (v'.ownBlock = v.ownBlock ∨ v'.ownBlock = some w.heap.size) := by
  obtain ⟨i0, hi0, hz0, hz1, hz2⟩ := info_parts hi
  obtain ⟨v', w', hrun, h2, h3, _, h5⟩ := run_append_own_at (P := P) w base t ty e i0 z k bytes ht hi0 hz0 hz1 hz2 hzs hk v n css.flatten hown.1 ad 1 c x (by omega) hc h1 h63 hbytes hbase
  refine ⟨v', w', hrun, ⟨by rw [List.flatten_append, List.flatten_singleton]; exact h2, by simp [hown.2.1], ?_⟩, h3, h5⟩
  intro d hd
  simp only [List.mem_append, List.mem_singleton] at hd
  rcases hd with hd | rfl
  · exact hown.2.2 d hd
  · exact hx
theorem wp_append_rws {P : Program} (w : World) {o : Oper} {a : Act} {K : Act → World → Prop} {Q : Exit → Act → World → Prop} (s x : Operand) (t : TypeId)
    (ho : o.op = .call { callee := .builtin .append, args := #[s, x], argTypes := #[t, t] }) {e : TypeId} {z : Value} {k bytes : Nat} (ht : P.underlying t = some (.slice e)) (hi : (P.info? e).map (fun i => (i.zero, i.size, i.bytes)) = some (some z, k, bytes)) (hzs : z.cells.size = k) (hk : 0 < k)
    (base : Nat) (v : Value) (n : Nat) (css : List (List Value)) (hs : a.eval s = v) (hown : MineR w base e k v n css) (ad : Addr) (c : Nat) (y : List Value) (hx : a.eval x = .slice (some ad) 1 c) (hy : y.length = k) (hc : ∀ (j : Nat) (u : Value), y[j]? = some u → w.cell? (ad.add j) = some u) (h1 : ∀ u ∈ y, u.oneCell' = true)
    (hbytes : (n + 1) * bytes ≤ 140737488355328) (h63 : n + 1 ≤ maxLen) (hbase : base ≤ w.heap.size)
    (h : ∀ v' w', MineR w' base e k v' (n + 1) (css ++ [y]) → w.grownBy w' v.ownBlock → (v'.ownBlock = v.ownBlock ∨ v'.ownBlock = some w.heap.size) → K (a.put o.dst v') w') : o.wp P a w K Q := by
  obtain ⟨v', w', hrun, h2, h3, h4⟩ := run_append_rws (P := P) w (ty := o.type) ht hi hzs hk base v n css hown ad c y hy hc h1 hbytes h63 hbase
  unfold Oper.wp execOp
  simp only [ho, resolve, invoke, builtin, Sem.run_bind, Sem.run_pure, Result.andThen_ok, List.map_toArray, List.map_cons, List.map_nil, hs, hx, hrun]
  exact h v' w' h2 h3 h4
theorem wpList_append_rws {P : Program} (w : World) {ops : Array Oper} {rest : List Oper} {o : Oper} {a : Act} {Q : Exit → Act → World → Prop} (hgd : o.guard = none) (s x : Operand) (t : TypeId)
    (ho : o.op = .call { callee := .builtin .append, args := #[s, x], argTypes := #[t, t] }) {e : TypeId} {z : Value} {k bytes : Nat} (ht : P.underlying t = some (.slice e)) (hi : (P.info? e).map (fun i => (i.zero, i.size, i.bytes)) = some (some z, k, bytes)) (hzs : z.cells.size = k) (hk : 0 < k)
    (base : Nat) (v : Value) (n : Nat) (css : List (List Value)) (hs : a.eval s = v) (hown : MineR w base e k v n css) (ad : Addr) (c : Nat) (y : List Value) (hx : a.eval x = .slice (some ad) 1 c) (hy : y.length = k) (hc : ∀ (j : Nat) (u : Value), y[j]? = some u → w.cell? (ad.add j) = some u) (h1 : ∀ u ∈ y, u.oneCell' = true)
    (hbytes : (n + 1) * bytes ≤ 140737488355328) (h63 : n + 1 ≤ maxLen) (hbase : base ≤ w.heap.size)
    (h : ∀ v' w', MineR w' base e k v' (n + 1) (css ++ [y]) → w.grownBy w' v.ownBlock → (v'.ownBlock = v.ownBlock ∨ v'.ownBlock = some w.heap.size) → wpList P ops Q rest (a.put o.dst v') w') : wpList P ops Q (o :: rest) a w :=
  wpList_plain hgd fun _ hK => wp_append_rws w s x t ho ht hi hzs hk base v n css hs hown ad c y hx hy hc h1 hbytes h63 hbase fun v' w' h2 h3 h4 => hK _ _ (h v' w' h2 h3 h4)
end Go.Proofs.YtikmcmoegigfhaaGreatDoor
