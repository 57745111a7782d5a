/-
  Words for layer 12's world: its block, the slice of its nodes, the slice of the document's, the nodes themselves.
-/
import Derived.Test.YtgelmhldicmmdaaGreatRws
import Derived.Test.YtgelmhldicmmdaaGreatDnSet
import Derived.Test.YtgelmhldicmmdaaGreatKdTwo
namespace Go.Proofs.YtgelmhldicmmdaaGreat
open Go.RowKit

abbrev ptrN (g : Nat) : Value := .pointer (some ⟨g, 0, none⟩)
def ptrs (l : List (Nat × Nd)) : List (List Value) := l.map (fun p => [ptrN p.1])
/-- A kid by its place, and one more. -/
def kp (gs : List Nat) (k : Int) : Option Addr := if k = 0 then none else (gs[(k - 1).toNat]?).map (fun g => ⟨g, 0, none⟩)
/-- The document's kids are these. -/
def KR (gs : List Nat) (K : Nat → Int) (es : List Ent) : Prop := ∀ b, b < 256 → (K b = 0 ∧ hasE es b = false) ∨ ∃ (j g : Nat), K b = (j : Int) + 1 ∧ j < 1000 ∧ gs[j]? = some g ∧ hasE es b = true ∧ getE es b = some ⟨g, 0, none⟩
/-- The document's node is this one. -/
def DocOf (w0 : World) (gs : List Nat) (x : Nd) (L : List Value) : Prop := ∃ A n c K, L = dnL x.ow x.leaf A n c x.has x.val K ∧ (∀ V, Below w0.heap.size w0 V → Byt V w0.heap.size A n x.part) ∧ KR gs K x.es
theorem KR.hk {gs : List Nat} {K : Nat → Int} {es : List Ent} (h : KR gs K es) : Hk K es := fun i hi => by
  rcases h i hi with q | ⟨j, g, q1, q0, _, q3, _⟩
  · exact .inl q
  · exact .inr ⟨by omega, by omega, q3⟩
theorem KR.get {gs : List Nat} {K : Nat → Int} {es : List Ent} (h : KR gs K es) {b : Nat} (hb : b < 256) : kp gs (K b) = getE es b := by
  rcases h b hb with ⟨q1, q2⟩ | ⟨j, g, q1, _, q2, q3, q4⟩
  · unfold hasE at q2
    rw [q1]
    unfold kp getE
    rcases hq : look es b with _ | z
    · rfl
    · rw [hq] at q2; cases q2
  · rw [q4, q1]
    unfold kp
    rw [if_neg (by omega), show ((j : Int) + 1 - 1).toNat = j by omega, q2]
    rfl
theorem KR.more {gs : List Nat} {K : Nat → Int} {es : List Ent} (h : KR gs K es) (g : Nat) : KR (gs ++ [g]) K es := fun b hb => by
  rcases h b hb with q | ⟨j, g', q1, q0, q2, q3, q4⟩
  · exact .inl q
  · exact .inr ⟨j, g', q1, q0, by rw [List.getElem?_append_left (List.getElem?_eq_some_iff.1 q2).1]; exact q2, q3, q4⟩
theorem KR.none_ (gs : List Nat) : KR gs (fun _ => 0) [] := fun b _ => .inl ⟨rfl, by simp [hasE, look]⟩
theorem KR.range {gs : List Nat} {K : Nat → Int} {es : List Ent} (h : KR gs K es) {b : Nat} (hb : b < 256) : ∃ j : Nat, K b = (j : Int) ∧ j ≤ gs.length := by
  rcases h b hb with ⟨q1, _⟩ | ⟨j, g, q1, _, q2, _⟩
  · exact ⟨0, q1, Nat.zero_le _⟩
  · exact ⟨j + 1, by omega, (List.getElem?_eq_some_iff.1 q2).1⟩
theorem DocOf.more {w0 : World} {gs : List Nat} {x : Nd} {L : List Value} (h : DocOf w0 gs x L) (g : Nat) : DocOf w0 (gs ++ [g]) x L := by
  obtain ⟨A, n, c, K, h1, h2, h3⟩ := h; exact ⟨A, n, c, K, h1, h2, h3.more g⟩
theorem DocOf.dn {w0 : World} {gs : List Nat} {x : Nd} {L : List Value} (h : DocOf w0 gs x L) : Dn L := by
  obtain ⟨A, n, c, K, rfl, _⟩ := h; exact dn_is
/-- All of them are. -/
def Docs (w0 : World) (l : List (Nat × Nd)) (ds : List (List Value)) : Prop := ds.length = l.length ∧ ∀ (k : Nat) (p : Nat × Nd) (L : List Value), l[k]? = some p → ds[k]? = some L → DocOf w0 (l.map Prod.fst) p.2 L

theorem MineR.kept {D : Nat → Prop} {w w' : World} {base k n : Nat} {e : TypeId} {v : Value} {css : List (List Value)} (h : MineR w base e k v n css) (hk : Kept D w w') (hD : ∀ i, v.ownBlock = some i → ¬ D i) : MineR w' base e k v n css := by
  refine ⟨⟨h.1.1, ?_⟩, h.2⟩
  rcases h.1.2 with hn | ⟨g, cap, cur, rfl, hb, hgg, rest⟩
  · exact .inl hn
  · refine .inr ⟨g, cap, cur, rfl, hb, ?_, rest⟩
    rw [hk.block g (Array.getElem?_eq_some_iff.1 hgg).1 (hD g rfl)]
    exact hgg
/-- A block that is none of the world's, and what lies in it. -/
abbrev FB := Option (Nat × Array Value)
/-- The blocks that are no node's. -/
def NX (fb : FB) (X : Nat) (vl vw : Value) (i : Nat) : Prop := i = X ∨ vl.ownBlock = some i ∨ vw.ownBlock = some i ∨ ∃ c, fb = some (i, c)
/-- The world: what it counts, its nodes lN, of which l are listed, the document's ds. -/
structure Wb (fb : FB) (w0 w : World) (X : Nat) (cnt md : Int) (lN l : List (Nat × Nd)) (ds : List (List Value)) (vl vw : Value) : Prop where
  blk : Lst w X [.int .i64 cnt, vl, vw, .int .i64 md]
  lst : MineR w w0.heap.size 46 1 vl l.length (ptrs l)
  row : MineR w w0.heap.size 59 261 vw ds.length ds
  nd : Ns w w0.heap.size (NX fb X vl vw) lN
  below : Below w0.heap.size w0 w
  lo : w0.heap.size ≤ X
  ne1 : vl.ownBlock ≠ some X
  ne2 : vw.ownBlock ≠ some X
  ne : ∀ i, vl.ownBlock = some i → vw.ownBlock ≠ some i
  fo : ∀ g c, fb = some (g, c) → Blk w g c ∧ w0.heap.size ≤ g ∧ g ≠ X ∧ vl.ownBlock ≠ some g ∧ vw.ownBlock ≠ some g
section
variable {w0 w w' : World} {X : Nat} {cnt md : Int} {lN l : List (Nat × Nd)} {ds : List (List Value)} {vl vw : Value}
theorem Wb.lt {fb : FB} (h : Wb fb w0 w X cnt md lN l ds vl vw) : ∀ i, NX fb X vl vw i → i < w.heap.size := fun i hi => by
  rcases hi with rfl | hi | hi | ⟨c, hi⟩
  · exact Blk.lt h.blk
  · exact (h.lst.lt i hi).2
  · exact (h.row.lt i hi).2
  · exact (h.fo i c hi).1.lt
/-- It stays where none of its own blocks is written. -/
theorem Wb.kept {fb : FB} (h : Wb fb w0 w X cnt md lN l ds vl vw) {D : Nat → Prop} {lN' : List (Nat × Nd)} (hk : Kept D w w') (hD : ∀ i, D i → w0.heap.size ≤ i ∧ ¬ NX fb X vl vw i) (hn : Ns w' w0.heap.size (NX fb X vl vw) lN') : Wb fb w0 w' X cnt md lN' l ds vl vw :=
  ⟨hk.blk h.blk (fun q => (hD X q).2 (.inl rfl)), h.lst.kept hk (fun i hi q => (hD i q).2 (.inr (.inl hi))), h.row.kept hk (fun i hi q => (hD i q).2 (.inr (.inr (.inl hi)))), hn,
    h.below.trans (hk.below h.below.size (fun i q => (hD i q).1)), h.lo, h.ne1, h.ne2, h.ne, fun g c e => ⟨hk.blk (h.fo g c e).1 (fun q => (hD g q).2 (.inr (.inr (.inr ⟨c, e⟩)))), (h.fo g c e).2⟩⟩
theorem Wb.on {fb : FB} (h : Wb fb w0 w X cnt md lN l ds vl vw) (hb : Below w.heap.size w w') : Wb fb w0 w' X cnt md lN l ds vl vw := h.kept (D := fun _ => False) (Kept.of_below hb) (fun _ q => q.elim) (h.nd.below hb)
theorem Wb.cL {fb : FB} (h : Wb fb w0 w X cnt md lN l ds vl vw) : w.cell? ⟨X, 1, none⟩ = some vl := by rw [Lst.at_ h.blk]; rfl
theorem Wb.cW {fb : FB} (h : Wb fb w0 w X cnt md lN l ds vl vw) : w.cell? ⟨X, 2, none⟩ = some vw := by rw [Lst.at_ h.blk]; rfl
/-- Its node at k lies there. -/
theorem Wb.ptr {fb : FB} (h : Wb fb w0 w X cnt md lN l ds vl vw) {k g : Nat} {x : Nd} (hk : l[k]? = some (g, x)) : ∃ t cap, vl = .slice (some ⟨t, 0, none⟩) l.length cap ∧ w.cell? ⟨t, k, none⟩ = some (ptrN g) := by
  have hl : k < l.length := (List.getElem?_eq_some_iff.1 hk).1
  obtain ⟨t, cap, rfl, _, _⟩ := World.ownsRow.form h.lst.1 (by omega)
  refine ⟨t, cap, rfl, ?_⟩
  rw [World.ownsRow.cellAt h.lst.1 k (by omega)]
  have := flatten_at (k := 1) (css := ptrs l) (fun c hc => by simp only [ptrs, List.mem_map] at hc; obtain ⟨p, _, rfl⟩ := hc; rfl) (j := k) (i := 0) (c := [ptrN g]) (by simp [ptrs, hk]) (by omega)
  rw [Nat.mul_one, Nat.add_zero] at this
  rw [this]; rfl
theorem Wb.dn {fb : FB} (h : Wb fb w0 w X cnt md lN l ds vl vw) {k : Nat} {L : List Value} (hk : ds[k]? = some L) : ∃ t cap, vw = .slice (some ⟨t, 0, none⟩) ds.length cap ∧ w.rangeAt t (k * 261) L ∧ L.length = 261 := by
  have hl : k < ds.length := (List.getElem?_eq_some_iff.1 hk).1
  obtain ⟨t, cap, rfl, _, _⟩ := World.ownsRow.form h.row.1 (by omega)
  have hL := h.row.2.2 L (List.mem_of_getElem? hk)
  refine ⟨t, cap, rfl, fun j v hj => ?_, hL⟩
  have hj2 : j < 261 := by have := (List.getElem?_eq_some_iff.1 hj).1; omega
  have hm : k * 261 + j < ds.length * 261 := by omega
  rw [World.ownsRow.cellAt h.row.1 (k * 261 + j) hm]
  rw [flatten_at (k := 261) h.row.2.2 hk hj2]
  exact hj

/-- One more is listed. -/
theorem Wb.grow1 {fb : FB} {g : Nat} {x : Nd} (h : Wb fb w0 w X cnt md lN l ds vl vw) {v1 : Value} {w1 : World} (hm : MineR w1 w0.heap.size 46 1 v1 (l.length + 1) (ptrs l ++ [[ptrN g]])) (hg : w.grownBy w1 vl.ownBlock) (ho : v1.ownBlock = vl.ownBlock ∨ v1.ownBlock = some w.heap.size) :
    w1.cell? ⟨X, 1, none⟩ = some vl ∧ w1.frozen? ⟨X, 1, none⟩ = false ∧ Wb fb w0 (w1.setCell ⟨X, 1, none⟩ v1) X cnt md lN (l ++ [(g, x)]) ds v1 vw := by
  have K1 : Kept (fun i => vl.ownBlock = some i) w w1 := Kept.of_grown hg
  have K2 : Kept (· = X) w1 (w1.setCell ⟨X, 1, none⟩ v1) := Kept.set_ _ _ _ rfl
  have hX := Blk.lt h.blk
  have b1 := K1.blk h.blk h.ne1
  have nX : v1.ownBlock ≠ some X := fun e => by
    rcases ho with q | q
    · exact h.ne1 (q ▸ e)
    · rw [q] at e; injection e with e; omega
  have nW : ∀ i, v1.ownBlock = some i → vw.ownBlock ≠ some i := fun i e q => by
    rcases ho with z | z
    · exact h.ne i (z ▸ e) q
    · rw [z] at e; injection e with e; have := (h.row.lt i q).2; omega
  refine ⟨by rw [Lst.at_ b1]; rfl, Blk.fz b1 _, ⟨Lst.set1 b1 1 v1, ?_, (h.row.kept K1 (fun i q e => h.ne i e q)).kept K2 (fun i q e => h.ne2 (e ▸ q)), ?_, ?_, h.lo, nX, h.ne2, nW, fun z c e => ?_⟩⟩
  · rw [show (l ++ [(g, x)]).length = l.length + 1 by simp, show ptrs (l ++ [(g, x)]) = ptrs l ++ [[ptrN g]] by simp [ptrs]]
    exact hm.kept K2 (fun i q e => nX (e ▸ q))
  · have m1 := h.nd.more (N' := fun i => NX fb X vl vw i ∨ v1.ownBlock = some i) (fun i q => by
      rcases q with q | q
      · exact .inl q
      · rcases ho with z | z
        · exact .inl (.inr (.inl (z ▸ q)))
        · rw [z] at q; injection q with q; exact .inr (by omega))
    have m2 := (m1.kept K1 (fun i e => .inr (.inl (.inr (.inl e))))).kept K2 (fun i e => .inr (.inl (.inl e)))
    exact m2.more (fun i q => .inl (by
      rcases q with q | q | q | q
      · exact .inl (.inl q)
      · exact .inr q
      · exact .inl (.inr (.inr (.inl q)))
      · exact .inl (.inr (.inr (.inr q)))))
  · exact (h.below.trans (K1.below h.below.size (fun i e => (h.lst.lt i e).1))).trans (K2.below (Nat.le_trans h.below.size K1.size) (fun i e => e ▸ h.lo))
  · have q := h.fo z c e
    refine ⟨K2.blk (K1.blk q.1 q.2.2.2.1) q.2.2.1, q.2.1, q.2.2.1, fun y => ?_, q.2.2.2.2⟩
    rcases ho with r | r
    · exact q.2.2.2.1 (r ▸ y)
    · rw [r] at y; injection y with y; have := q.1.lt; omega
/-- One more of the document's. -/
theorem Wb.grow2 {fb : FB} (h : Wb fb w0 w X cnt md lN l ds vl vw) {L : List Value} {v1 : Value} {w1 : World} (hm : MineR w1 w0.heap.size 59 261 v1 (ds.length + 1) (ds ++ [L])) (hg : w.grownBy w1 vw.ownBlock) (ho : v1.ownBlock = vw.ownBlock ∨ v1.ownBlock = some w.heap.size) :
    w1.cell? ⟨X, 2, none⟩ = some vw ∧ w1.frozen? ⟨X, 2, none⟩ = false ∧ Wb fb w0 (w1.setCell ⟨X, 2, none⟩ v1) X cnt md lN l (ds ++ [L]) vl v1 := by
  have K1 : Kept (fun i => vw.ownBlock = some i) w w1 := Kept.of_grown hg
  have K2 : Kept (· = X) w1 (w1.setCell ⟨X, 2, none⟩ v1) := Kept.set_ _ _ _ rfl
  have hX := Blk.lt h.blk
  have b1 := K1.blk h.blk h.ne2
  have nX : v1.ownBlock ≠ some X := fun e => by
    rcases ho with q | q
    · exact h.ne2 (q ▸ e)
    · rw [q] at e; injection e with e; omega
  have nW : ∀ i, vl.ownBlock = some i → v1.ownBlock ≠ some i := fun i q e => by
    rcases ho with z | z
    · exact h.ne i q (z ▸ e)
    · rw [z] at e; injection e with e; have := (h.lst.lt i q).2; omega
  refine ⟨by rw [Lst.at_ b1]; rfl, Blk.fz b1 _, ⟨Lst.set1 b1 2 v1, (h.lst.kept K1 (fun i q e => h.ne i q e)).kept K2 (fun i q e => h.ne1 (e ▸ q)), ?_, ?_, ?_, h.lo, h.ne1, nX, nW, fun z c e => ?_⟩⟩
  · rw [show (ds ++ [L]).length = ds.length + 1 by simp]
    exact hm.kept K2 (fun i q e => nX (e ▸ q))
  · have m1 := h.nd.more (N' := fun i => NX fb X vl vw i ∨ v1.ownBlock = some i) (fun i q => by
      rcases q with q | q
      · exact .inl q
      · rcases ho with z | z
        · exact .inl (.inr (.inr (.inl (z ▸ q))))
        · rw [z] at q; injection q with q; exact .inr (by omega))
    have m2 := (m1.kept K1 (fun i e => .inr (.inl (.inr (.inr (.inl e)))))).kept K2 (fun i e => .inr (.inl (.inl e)))
    exact m2.more (fun i q => .inl (by
      rcases q with q | q | q | q
      · exact .inl (.inl q)
      · exact .inl (.inr (.inl q))
      · exact .inr q
      · exact .inl (.inr (.inr (.inr q)))))
  · exact (h.below.trans (K1.below h.below.size (fun i e => (h.row.lt i e).1))).trans (K2.below (Nat.le_trans h.below.size K1.size) (fun i e => e ▸ h.lo))
  · have q := h.fo z c e
    refine ⟨K2.blk (K1.blk q.1 q.2.2.2.2) q.2.2.1, q.2.1, q.2.2.1, q.2.2.2.1, fun y => ?_⟩
    rcases ho with r | r
    · exact q.2.2.2.2 (r ▸ y)
    · rw [r] at y; injection y with y; have := q.1.lt; omega
/-- It is told how many were made. -/
theorem Wb.told {fb : FB} (h : Wb fb w0 w X cnt md lN l ds vl vw) (m : Int) : Wb fb w0 (w.setCell ⟨X, 3, none⟩ (.int .i64 m)) X cnt m lN l ds vl vw := by
  have K2 : Kept (· = X) w (w.setCell ⟨X, 3, none⟩ (.int .i64 m)) := Kept.set_ _ _ _ rfl
  exact ⟨Lst.set1 h.blk 3 _, h.lst.kept K2 (fun i q e => h.ne1 (e ▸ q)), h.row.kept K2 (fun i q e => h.ne2 (e ▸ q)), h.nd.kept K2 (fun i e => .inr (.inl e)), h.below.trans (K2.below h.below.size (fun i e => e ▸ h.lo)), h.lo, h.ne1, h.ne2, h.ne, fun g c e => ⟨K2.blk (h.fo g c e).1 (h.fo g c e).2.2.1, (h.fo g c e).2⟩⟩

set_option maxRecDepth 100000 in
theorem wkid_any {fb : FB} (h : Wb fb w0 w X cnt md lN l ds vl vw) (k : Int) (hk : ∃ j : Nat, k = (j : Int) ∧ j ≤ l.length) (hf : l.length ≤ 1000) : Calls Tryz.prog 26 #[ptrN X, .int .i64 k] w fun e w' => e = .returned (.pointer (kp (l.map Prod.fst) k)) ∧ w' = w := by
  obtain ⟨j, rfl, hj⟩ := hk
  cases j with
  | zero =>
    clear h
    go_enter Tryz.func26, Tryz.ntmps26
    go_wp2
    go_ret
    exact ⟨rfl, rfl⟩
  | succ j =>
    obtain ⟨⟨g, x⟩, hg⟩ : ∃ p, l[j]? = some p := ⟨_, List.getElem?_eq_getElem (by omega)⟩
    obtain ⟨t, cap, hv, hc⟩ := h.ptr hg
    have c1 := h.cL
    rw [hv] at c1
    have E := Lib.hid (show kp (l.map Prod.fst) (((j + 1 : Nat) : Int)) = some ⟨g, 0, none⟩ by
      unfold kp
      rw [if_neg (by omega), show (((j + 1 : Nat) : Int) - 1).toNat = j by omega, List.getElem?_map, hg]
      rfl)
    generalize kp (l.map Prod.fst) (((j + 1 : Nat) : Int)) = r at E ⊢
    have hjl : j < l.length := by omega
    have n1 : ¬ (((j + 1 : Nat) : Int) = 0) := by omega
    have ew : IntKind.i64.wrap (((j + 1 : Nat) : Int) - 1) = (j : Int) := by rw [IntKind.wrap_i64]; omega
    clear h hg hv hj
    generalize l.length = ln at c1 hjl hf
    obtain ⟨z, hz⟩ : ∃ z : Int, ((j + 1 : Nat) : Int) = z := ⟨_, rfl⟩
    rw [hz] at n1 ew
    rw [hz]
    clear hz
    go_enter Tryz.func26, Tryz.ntmps26
    go_wp2
    go_ret
    exact ⟨by rw [E.out]; rfl, rfl⟩
end
end Go.Proofs.YtgelmhldicmmdaaGreat
