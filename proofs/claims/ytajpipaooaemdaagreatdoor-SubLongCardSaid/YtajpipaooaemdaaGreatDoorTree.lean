/-
  Words for memory: a slice of elements of some cells each, that came in or was made, append of one element. Nothing of the program is used.
  Trees: what a tree is (a node with a forest of kids, by their bytes), its nodes as they are come by, one ahead of its kids; where it is in memory, and what keeps it.
  A range over a function whose iterator keeps cells of its own: what each side may write. Nothing of the program is used.
-/
import Derived.Test.YtajpipaooaemdaaGreatDoorMem
import Derived.Deep.MidRow
import Derived.Laws.ResultCell
import Derived.Test.YtajpipaooaemdaaGreatDoorNd
import Derived.Test.YtajpipaooaemdaaGreatDoorSm
import Derived.RangeFuncNested
import Derived.RangeFuncBound
import Derived.RangeFuncCalls
import Derived.RangeFuncLeaves
import Derived.Shelf.Abstract
import Derived.OwnWalkIn
import Derived.Deep.RegionHeld
namespace Go.Proofs.YtajpipaooaemdaaGreatDoor
open Go.RowKit

theorem flatten_at {α : Type} {k : Nat} {css : List (List α)} (h : ∀ c ∈ css, c.length = k) {j i : Nat} {c : List α} (hj : css[j]? = some c) (hi : i < k) : css.flatten[j * k + i]? = c[i]? := by
  induction css generalizing j with
  | nil => simp at hj
  | cons d css ih =>
    have hd : d.length = k := h d (by simp)
    cases j with
    | zero =>
      simp at hj
      subst hj
      rw [List.flatten_cons, Nat.zero_mul, Nat.zero_add, List.getElem?_append_left (by omega)]
    | succ j =>
      have e : (j + 1) * k + i = d.length + (j * k + i) := by rw [hd, Nat.add_mul]; omega
      rw [List.flatten_cons, e, List.getElem?_append_right (by omega), Nat.add_sub_cancel_left]
      exact ih (fun c hc => h c (by simp [hc])) (by simpa using hj)
/-- The slice value '.slice A n _' holds n elements of k cells each, their cells css, and lies below block B. -/
def Rws (w : World) (B : Nat) (A : Option Addr) (n k : Nat) (css : List (List Value)) : Prop :=
  css.length = n ∧ n ≤ maxLen ∧ (∀ c ∈ css, c.length = k) ∧ (0 < n → ∃ ad, A = some ad ∧ ad.block < B ∧ ∀ (j i : Nat) (c : List Value) (u : Value), css[j]? = some c → c[i]? = some u → w.cell? (ad.add (j * k + i)) = some u)
section
variable {w w' : World} {B B' n k : Nat} {A : Option Addr} {css : List (List Value)}
theorem Rws.none_ : Rws w B A 0 k [] := ⟨rfl, by unfold maxLen; omega, by simp, fun h => absurd h (by omega)⟩
theorem Rws.keep (h : Rws w B A n k css) (hk : ∀ p : Addr, p.block < B → w'.cell? p = w.cell? p) : Rws w' B A n k css :=
  ⟨h.1, h.2.1, h.2.2.1, fun hn => by
    obtain ⟨ad, e, hb, hc⟩ := h.2.2.2 hn
    exact ⟨ad, e, hb, fun j i c u hj hi => (hk _ (by rw [block_of_add]; exact hb)).trans (hc j i c u hj hi)⟩⟩
theorem Rws.below (h : Rws w B A n k css) (hb : Below B w w') : Rws w' B A n k css := h.keep fun _ hp => hb.cell hp
theorem Rws.more (h : Rws w B A n k css) (hB : B ≤ B') : Rws w B' A n k css :=
  ⟨h.1, h.2.1, h.2.2.1, fun hn => by
    obtain ⟨ad, e, hb, hc⟩ := h.2.2.2 hn
    exact ⟨ad, e, by omega, hc⟩⟩
theorem Rws.drewN (h : Rws w B A n k css) (m : Nat) : Rws (w.drewN m) B A n k css := h
theorem Rws.alloc (h : Rws w B A n k css) (hB : B ≤ w.heap.size) (o : Obj) : Rws (w.alloc o) B A n k css := h.keep fun p hp => World.cell?_alloc_lt w o p (by omega)
theorem Rws.at_ {j : Nat} (h : Rws w B A n k css) (hj : j < n) : ∃ (ad : Addr) (c : List Value), A = some ad ∧ ad.block < B ∧ css[j]? = some c ∧ c.length = k ∧ ∀ (i : Nat) (u : Value), c[i]? = some u → w.cell? (ad.add (j * k + i)) = some u := by
  obtain ⟨ad, e, hb, hc⟩ := h.2.2.2 (by omega)
  have hl : j < css.length := by have := h.1; omega
  have hq := List.getElem?_eq_getElem hl
  exact ⟨ad, css[j], e, hb, hq, h.2.2.1 _ (List.getElem_mem hl), fun i u hu => hc j i _ u hq hu⟩
theorem Rws.take (h : Rws w B A n k css) {m : Nat} (hm : m ≤ n) : Rws w B A m k (css.take m) := by
  refine ⟨by have := h.1; simp; omega, by have := h.2.1; omega, fun c hc => h.2.2.1 c (List.mem_of_mem_take hc), fun hn => ?_⟩
  obtain ⟨ad, e, hb, hc⟩ := h.2.2.2 (by omega)
  exact ⟨ad, e, hb, fun j i c u hj hi => hc j i c u (by rw [List.getElem?_take] at hj; split at hj; exact hj; cases hj) hi⟩
end

/-- A row of the call's own: elements of k cells each, of type e, in blocks from base on. -/
def MineR (w : World) (base : Nat) (e : TypeId) (k : Nat) (v : Value) (n : Nat) (css : List (List Value)) : Prop := w.ownsRow base e k v n css.flatten ∧ css.length = n ∧ ∀ c ∈ css, c.length = k
section
variable {w w' : World} {base : Nat} {e : TypeId} {k n : Nat} {v : Value} {css : List (List Value)}
theorem MineR.nil (w : World) (base : Nat) (e : TypeId) (k : Nat) : MineR w base e k (.slice none 0 0) 0 [] := ⟨World.ownsRow_nil w base e k, rfl, by simp⟩
theorem MineR.slice (h : MineR w base e k v n css) : ∃ A c, v = .slice A n c ∧ n ≤ c := by
  rcases h.1.2 with ⟨rfl, rfl⟩ | ⟨g, cap, cur, rfl, _, _, hc, _⟩
  · exact ⟨_, _, rfl, Nat.le_refl _⟩
  · exact ⟨_, _, rfl, hc⟩
theorem MineR.alloc (h : MineR w base e k v n css) (o : Obj) : MineR (w.alloc o) base e k v n css := ⟨h.1.alloc o, h.2⟩
theorem MineR.drewN (h : MineR w base e k v n css) (m : Nat) : MineR (w.drewN m) base e k v n css := h
theorem MineR.lt (h : MineR w base e k v n css) : ∀ g, v.ownBlock = some g → base ≤ g ∧ g < w.heap.size := h.1.lt
theorem MineR.rws {A : Option Addr} {c : Nat} (h : MineR w base e k (.slice A n c) n css) : Rws w w.heap.size A n k css := by
  refine ⟨h.2.1, ?_, h.2.2, fun hn => ?_⟩
  · rcases h.1.2 with ⟨_, h0⟩ | ⟨g, cap, cur, hv, _, _, h1, h2, _⟩
    · subst h0; unfold maxLen; omega
    · omega
  · rcases h.1.2 with ⟨_, h0⟩ | ⟨g, cap, cur, hv, _, hg, _⟩
    · omega
    · have hA : A = some ⟨g, 0, none⟩ := by injection hv
      subst hA
      refine ⟨_, rfl, (Array.getElem?_eq_some_iff.1 hg).1, fun j i c u hj hi => ?_⟩
      have hik : i < k := by have := (List.getElem?_eq_some_iff.1 hi).1; have := h.2.2 c (List.mem_of_getElem? hj); omega
      exact World.ownsRow.cells h.1 (g := g) rfl (j * k + i) u (by rw [flatten_at h.2.2 hj hik]; exact hi)
theorem MineR.below {B : Nat} (h : MineR w base e k v n css) (hb : Below B w w') (hg : ∀ g, v.ownBlock = some g → g < B) : MineR w' base e k v n css := by
  refine ⟨⟨h.1.1, ?_⟩, h.2⟩
  rcases h.1.2 with q | ⟨g, cap, cur, rfl, h1, h2, h3⟩
  · exact .inl q
  · exact .inr ⟨g, cap, cur, rfl, h1, (hb.block g (hg g rfl)).trans h2, h3⟩
/-- A row whose cells are no bytes lies elsewhere than bytes do. -/
theorem MineR.apart (h : MineR w base e k v n css) (he : ∀ (g : Nat) (cur : Array Value), v.ownBlock = some g → w.heap[g]? = some (.cells cur e (0, 0)) → ∀ z, Value.int .u8 z ∉ cur) {B m : Nat} {A : Option Addr} {l : List UInt8} (hb : Byt w B A m l) : ∀ ad, A = some ad → 0 < m → v.ownBlock ≠ some ad.block := by
  intro ad hA hm q
  rcases h.1.2 with ⟨rfl, _⟩ | ⟨g, cap, cur, rfl, _, hg, _⟩
  · cases q
  · obtain ⟨ad', e', _, hc⟩ := hb.2.2 hm
    rw [hA] at e'
    injection e' with e'
    subst e'
    have hl : 0 < l.length := by have := hb.1; omega
    have h0 := hc 0 (l[0]) (List.getElem?_eq_getElem hl)
    have hz : ad.add 0 = ad := by simp [Addr.add]
    rw [hz] at h0
    have hgb : g = ad.block := by simpa [Value.ownBlock] using q
    unfold World.cell? at h0
    rw [← hgb, hg] at h0
    simp only at h0
    split at h0
    · cases h0
    · exact he g cur rfl hg _ (Array.mem_of_getElem? h0)
end

/-- append of elements that lie in memory: what is left. -/
theorem run_append_rws {P : Program} (w : World) {t ty e : TypeId} {z : Value} {k bytes : Nat} (ht : P.underlying t = some (.slice e)) (hi : (P.info? e).map (fun i => (i.zero, i.size, i.bytes)) = some (some z, k, bytes)) (hzs : z.cells.size = k) (hk : 0 < k)
    (base : Nat) (v : Value) (n : Nat) (css : List (List Value)) (hown : MineR w base e k v n css) (ad : Addr) (c : Nat) (x : List Value) (hx : x.length = k) (hc : ∀ (j : Nat) (u : Value), x[j]? = some u → w.cell? (ad.add j) = some u) (h1 : ∀ u ∈ x, u.oneCell' = true)
    (hbytes : (n + 1) * bytes ≤ 140737488355328) (h63 : n + 1 ≤ maxLen) (hbase : base ≤ w.heap.size) :
    ∃ v' w', (Builtin.append_ #[t, t] ty #[v, .slice (some ad) 1 c]).run P w = .ok v' w' ∧ MineR w' base e k v' (n + 1) (css ++ [x]) ∧ w.grownBy w' v.ownBlock ∧ (v'.ownBlock = v.ownBlock ∨ v'.ownBlock = some w.heap.size) := by
  obtain ⟨i0, hi0, hz0, hz1, hz2⟩ := info_parts hi
  obtain ⟨v', w', hrun, h2, h3, _, h5⟩ := run_append_own_at (P := P) w base t ty e i0 z k bytes ht hi0 hz0 hz1 hz2 hzs hk v n css.flatten hown.1 ad 1 c x (by omega) hc h1 h63 hbytes hbase
  refine ⟨v', w', hrun, ⟨by rw [List.flatten_append, List.flatten_singleton]; exact h2, by simp [hown.2.1], ?_⟩, h3, h5⟩
  intro d hd
  simp only [List.mem_append, List.mem_singleton] at hd
  rcases hd with hd | rfl
  · exact hown.2.2 d hd
  · exact hx
theorem wp_append_rws {P : Program} (w : World) {o : Oper} {a : Act} {K : Act → World → Prop} {Q : Exit → Act → World → Prop} (s x : Operand) (t : TypeId)
    (ho : o.op = .call { callee := .builtin .append, args := #[s, x], argTypes := #[t, t] }) {e : TypeId} {z : Value} {k bytes : Nat} (ht : P.underlying t = some (.slice e)) (hi : (P.info? e).map (fun i => (i.zero, i.size, i.bytes)) = some (some z, k, bytes)) (hzs : z.cells.size = k) (hk : 0 < k)
    (base : Nat) (v : Value) (n : Nat) (css : List (List Value)) (hs : a.eval s = v) (hown : MineR w base e k v n css) (ad : Addr) (c : Nat) (y : List Value) (hx : a.eval x = .slice (some ad) 1 c) (hy : y.length = k) (hc : ∀ (j : Nat) (u : Value), y[j]? = some u → w.cell? (ad.add j) = some u) (h1 : ∀ u ∈ y, u.oneCell' = true)
    (hbytes : (n + 1) * bytes ≤ 140737488355328) (h63 : n + 1 ≤ maxLen) (hbase : base ≤ w.heap.size)
    (h : ∀ v' w', MineR w' base e k v' (n + 1) (css ++ [y]) → w.grownBy w' v.ownBlock → (v'.ownBlock = v.ownBlock ∨ v'.ownBlock = some w.heap.size) → K (a.put o.dst v') w') : o.wp P a w K Q := by
  obtain ⟨v', w', hrun, h2, h3, h4⟩ := run_append_rws (P := P) w (ty := o.type) ht hi hzs hk base v n css hown ad c y hy hc h1 hbytes h63 hbase
  unfold Oper.wp execOp
  simp only [ho, resolve, invoke, builtin, Sem.run_bind, Sem.run_pure, Result.andThen_ok, List.map_toArray, List.map_cons, List.map_nil, hs, hx, hrun]
  exact h v' w' h2 h3 h4
theorem wpList_append_rws {P : Program} (w : World) {ops : Array Oper} {rest : List Oper} {o : Oper} {a : Act} {Q : Exit → Act → World → Prop} (hgd : o.guard = none) (s x : Operand) (t : TypeId)
    (ho : o.op = .call { callee := .builtin .append, args := #[s, x], argTypes := #[t, t] }) {e : TypeId} {z : Value} {k bytes : Nat} (ht : P.underlying t = some (.slice e)) (hi : (P.info? e).map (fun i => (i.zero, i.size, i.bytes)) = some (some z, k, bytes)) (hzs : z.cells.size = k) (hk : 0 < k)
    (base : Nat) (v : Value) (n : Nat) (css : List (List Value)) (hs : a.eval s = v) (hown : MineR w base e k v n css) (ad : Addr) (c : Nat) (y : List Value) (hx : a.eval x = .slice (some ad) 1 c) (hy : y.length = k) (hc : ∀ (j : Nat) (u : Value), y[j]? = some u → w.cell? (ad.add j) = some u) (h1 : ∀ u ∈ y, u.oneCell' = true)
    (hbytes : (n + 1) * bytes ≤ 140737488355328) (h63 : n + 1 ≤ maxLen) (hbase : base ≤ w.heap.size)
    (h : ∀ v' w', MineR w' base e k v' (n + 1) (css ++ [y]) → w.grownBy w' v.ownBlock → (v'.ownBlock = v.ownBlock ∨ v'.ownBlock = some w.heap.size) → wpList P ops Q rest (a.put o.dst v') w') : wpList P ops Q (o :: rest) a w :=
  wpList_plain hgd fun _ hK => wp_append_rws w s x t ho ht hi hzs hk base v n css hs hown ad c y hx hy hc h1 hbytes h63 hbase fun v' w' h2 h3 h4 => hK _ _ (h v' w' h2 h3 h4)
end Go.Proofs.YtajpipaooaemdaaGreatDoor

namespace Go.Proofs.YtajpipaooaemdaaGreatDoor
open Go.RowKit

/-- A node without its kids. -/
structure Nn where
  leaf : Bool
  ow : Int
  part : List UInt8
  val : Int
  has : Bool
/-- Trees by their bytes: the first one's byte, node and kids, and the others. -/
inductive Fo where
  | nil
  | cons (b : UInt8) (x : Nn) (k r : Fo)
abbrev Nn.nd (x : Nn) (es : List Ent) : Nd := ⟨x.leaf, x.ow, x.part, x.val, x.has, es⟩
def Fo.len : Fo → Nat
  | .nil => 0
  | .cons _ _ _ r => r.len + 1
/-- Each tree of a forest. -/
def Fo.All (P : UInt8 → Nn → Fo → Prop) : Fo → Prop
  | .nil => True
  | .cons b x k r => P b x k ∧ r.All P
theorem Fo.all_of {P : UInt8 → Nn → Fo → Prop} (h : ∀ b x k, k.All P → P b x k) : ∀ f : Fo, f.All P
  | .nil => trivial
  | .cons b x k r => ⟨h b x k (Fo.all_of h k), Fo.all_of h r⟩

/-- A node that is come by: how many kids, the bytes on the way to it with its part, how deep. -/
structure Vt where
  x : Nn
  nk : Nat
  way : List UInt8
  deep : Nat
def Fo.vis : Fo → List UInt8 → Nat → List Vt
  | .nil, _, _ => []
  | .cons b x k r, pw, d => ⟨x, k.len, (pw ++ [b]) ++ x.part, d⟩ :: (k.vis ((pw ++ [b]) ++ x.part) (d + 1) ++ r.vis pw d)
/-- All nodes of a tree, behind some bytes. -/
def tvis (x : Nn) (k : Fo) (pw : List UInt8) (d : Nat) : List Vt := ⟨x, k.len, pw ++ x.part, d⟩ :: k.vis (pw ++ x.part) (d + 1)
/-- A forest in memory, its blocks in S. -/
def Fo.Is (w : World) (S : Nat → Prop) : Fo → List Ent → Prop
  | .nil, es => es = []
  | .cons b x k r, es => ∃ g be A ek er, es = (b, some ⟨g, 0, none⟩) :: er ∧ Nod w g (x.nd ek) be A ∧ (∀ i, be.all g i ∨ Pb A x.part i → S i) ∧ Fo.Is w S k ek ∧ Fo.Is w S r er
/-- A tree in memory: its top node is block g. -/
def Tre (w : World) (S : Nat → Prop) (x : Nn) (k : Fo) (g : Nat) : Prop := ∃ be A ek, Nod w g (x.nd ek) be A ∧ (∀ i, be.all g i ∨ Pb A x.part i → S i) ∧ k.Is w S ek

section
variable {w w' : World} {S S' D : Nat → Prop}
theorem Fo.Is.kept (hk : Kept D w w') (hD : ∀ i, S i → ¬ D i) : ∀ {f : Fo} {es : List Ent}, f.Is w S es → f.Is w' S es
  | .nil, _, h => h
  | .cons _ _ _ _, _, ⟨g, be, A, ek, er, e, h1, h2, h3, h4⟩ => ⟨g, be, A, ek, er, e, h1.kept hk (fun i hi => hD i (h2 i hi)), h2, Fo.Is.kept hk hD h3, Fo.Is.kept hk hD h4⟩
theorem Fo.Is.mono (hS : ∀ i, S i → S' i) : ∀ {f : Fo} {es : List Ent}, f.Is w S es → f.Is w S' es
  | .nil, _, h => h
  | .cons _ _ _ _, _, ⟨g, be, A, ek, er, e, h1, h2, h3, h4⟩ => ⟨g, be, A, ek, er, e, h1, fun i hi => hS i (h2 i hi), Fo.Is.mono hS h3, Fo.Is.mono hS h4⟩
theorem Fo.Is.len : ∀ {f : Fo} {es : List Ent}, f.Is w S es → es.length = f.len
  | .nil, _, h => by cases h; rfl
  | .cons _ _ _ _, _, ⟨g, be, A, ek, er, e, h1, h2, h3, h4⟩ => by subst e; simp [Fo.len, Fo.Is.len h4]
/-- It lies in blocks that are there. -/
theorem Fo.Is.there : ∀ {f : Fo} {es : List Ent}, f.Is w S es → f.Is w (fun i => S i ∧ i < w.heap.size) es
  | .nil, _, h => h
  | .cons _ _ _ _, _, ⟨g, be, A, ek, er, e, h1, h2, h3, h4⟩ => ⟨g, be, A, ek, er, e, h1, fun i hi => ⟨h2 i hi, hi.elim (fun q => h1.lt q) (fun q => h1.ltA q)⟩, Fo.Is.there h3, Fo.Is.there h4⟩
theorem Tre.kept {x : Nn} {k : Fo} {g : Nat} (h : Tre w S x k g) (hk : Kept D w w') (hD : ∀ i, S i → ¬ D i) : Tre w' S x k g := by
  obtain ⟨be, A, ek, h1, h2, h3⟩ := h
  exact ⟨be, A, ek, h1.kept hk (fun i hi => hD i (h2 i hi)), h2, h3.kept hk hD⟩
theorem Tre.mono {x : Nn} {k : Fo} {g : Nat} (h : Tre w S x k g) (hS : ∀ i, S i → S' i) : Tre w S' x k g := by
  obtain ⟨be, A, ek, h1, h2, h3⟩ := h
  exact ⟨be, A, ek, h1, fun i hi => hS i (h2 i hi), h3.mono hS⟩
theorem Tre.there {x : Nn} {k : Fo} {g : Nat} (h : Tre w S x k g) : Tre w (fun i => S i ∧ i < w.heap.size) x k g := by
  obtain ⟨be, A, ek, h1, h2, h3⟩ := h
  exact ⟨be, A, ek, h1, fun i hi => ⟨h2 i hi, hi.elim (fun q => h1.lt q) (fun q => h1.ltA q)⟩, h3.there⟩
theorem Tre.below {x : Nn} {k : Fo} {g n₀ : Nat} (h : Tre w S x k g) (hS : ∀ i, S i → i < n₀) (hk : Below n₀ w w') : Tre w' S x k g :=
  h.kept (D := fun i => n₀ ≤ i) (Kept.of_below' hk) (fun i hi q => by have := hS i hi; omega)
end

/-- The one behind the i-th is looked for from its byte and one. -/
theorem next_after {es : List Ent} (h : Up es) {i : Nat} {e : Ent} (he : es[i]? = some e) {a : Int} (ha : a = (e.1.toNat : Int) + 1) : nextE es a = es[i + 1]? := by
  subst ha
  unfold nextE
  have hp := pos_behind h he
  rw [show ((e.1.toNat : Int) + 1).toNat = e.1.toNat + 1 by omega, hp]
  split
  · rename_i hb
    rcases hx : es[i + 1]? with _ | e'
    · rfl
    · have := h.at_ (Nat.lt_succ_self i) he hx
      have := e'.1.toNat_lt
      omega
  · rfl
theorem next_first (es : List Ent) : nextE es 0 = es[0]? := by
  unfold nextE
  rw [if_neg (by omega), show (0 : Int).toNat = 0 from rfl, pos_zero]
end Go.Proofs.YtajpipaooaemdaaGreatDoor

namespace Go.Proofs.YtajpipaooaemdaaGreatDoor
open Go.RowKit Go.Shelf

/-- A step of the other side: it writes its own blocks N, and new ones; or a record that is no cells. -/
structure Stp1 (n₀ : Nat) (N : Nat → Prop) (A B : World) : Prop where
  below : Below n₀ A B
  size : A.heap.size ≤ B.heap.size
  same : ∀ (k : Nat) (o : Obj), A.heap[k]? = some o → o.isCells = true → ¬ N k → B.heap[k]? = some o
theorem Blk.step {n₀ : Nat} {N : Nat → Prop} {A B : World} {g : Nat} {cs : Array Value} (h : Blk A g cs) (hs : Stp1 n₀ N A B) (hg : ¬ N g) : Blk B g cs := by
  obtain ⟨t, h⟩ := h
  exact ⟨t, hs.same g _ h rfl hg⟩

/-- What is at hand where a node is come by: its block, the way to it. -/
structure Vis (n₀ : Nat) (W : World) (N : Nat → Prop) (v : Vt) (g : Nat) (A : Option Addr) (n c : Nat) : Prop where
  nod : ∃ be A' ek, Nod W g (v.x.nd ek) be A' ∧ ek.length = v.nk ∧ ∀ i, be.all g i ∨ Pb A' v.x.part i → i < n₀
  byt : Byt W W.heap.size A n v.way
  own : ∀ i, Pb A v.way i → N i
  room : n ≤ c
theorem Vis.kept {n₀ : Nat} {W W' : World} {N D : Nat → Prop} {v : Vt} {g : Nat} {A : Option Addr} {n c : Nat} (h : Vis n₀ W N v g A n c) (hk : Kept D W W') (hD : ∀ i, D i → n₀ ≤ i ∧ ¬ N i) : Vis n₀ W' N v g A n c := by
  obtain ⟨⟨be, A', ek, h1, h2, h3⟩, h4, h5, h6⟩ := h
  have hn := h4.1
  subst hn
  exact ⟨⟨be, A', ek, h1.kept hk (fun i hi q => by have := h3 i hi; have := hD i q; omega), h2, h3⟩,
    (h4.keepPb fun p hp => hk.cell (h4.ltPb hp) (fun q => (hD _ q).2 (h5 _ hp))).more hk.size, h5, h6⟩
abbrev visV (g : Nat) (A : Option Addr) (n c : Nat) (d : Nat) : Value := .agg #[.pointer (some ⟨g, 0, none⟩), .slice A n c, .int .i64 (d : Int)]
abbrev visA (g : Nat) (A : Option Addr) (n c : Nat) (d : Nat) : Array Value := #[.pointer (some ⟨g, 0, none⟩), .slice A n c, .int .i64 (d : Int)]

/-- What an iterator promises that comes by vs. -/
def Seqs (n₀ : Nat) (P : Program) (gf : Nat) (lb : Array Value) (vs : List Vt) (w : World) : Prop :=
  ∀ (m l : Nat) (J : List Vt → (Nat → Prop) → World → Prop) (Jx : World → Prop) (W : World), Below w.heap.size w W → n₀ ≤ W.heap.size →
    (∀ pre N N' A B, J pre N A → Kept N A B → (∀ i, N i → n₀ ≤ i) → (∀ i, N' i → N i ∨ A.heap.size ≤ i) → J pre N' B) →
    (∀ m' pre v N W1 g A n c, J pre N W1 → (∃ post, vs = pre ++ v :: post) → (∀ i, N i → n₀ ≤ i ∧ i < W1.heap.size) → n₀ ≤ W1.heap.size → Vis n₀ W1 N v g A n c →
      YieldAt Fence.wide m' P l #[visV g A n c v.deep] W1 fun e W' => (e = .returned (.bool true) ∧ J (pre ++ [v]) N W' ∧ Kept (fun i => n₀ ≤ i ∧ ¬ N i) W1 W') ∨ (e = .returned (.bool false) ∧ Jx W')) →
    J [] (fun _ => False) W →
    CallsIn Fence.wide m P gf (#[.func (.yield l) #[] #[]] ++ lb) W fun e W' => (∃ v, e = .returned v) ∧ ((∃ N, J vs N W') ∨ Jx W')

/-- How the body of a round may be left. -/
def minePost (n₀ : Nat) (N : Nat → Prop) (I : List Vt → (Nat → Prop) → World → Prop) (Ix : Code → World → Prop) (xs : List Vt) (W : World) : Exit → Act → World → Prop
  | .normal, _, W' => KeepsOthers W W' ∧ Kept (fun i => n₀ ≤ i ∧ ¬ N i) W W' ∧ I xs N W'
  | .ret, _, W' => KeepsOthers W W' ∧ Ix .ret W'
  | .exit id, _, W' => KeepsOthers W W' ∧ Ix (.exit id) W'
  | .goto t, _, W' => KeepsOthers W W' ∧ Ix (.goto t) W'
  | .panic _, _, _ => False
  | .outgrown, _, _ => False

end Go.Proofs.YtajpipaooaemdaaGreatDoor
