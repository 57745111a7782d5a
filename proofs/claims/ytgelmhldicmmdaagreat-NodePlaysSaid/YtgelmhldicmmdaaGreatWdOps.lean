/-
  The document's node and the node, written to alike; a document's node laid over another one in the world's slice.
-/
import Derived.Test.YtgelmhldicmmdaaGreatWdFresh
namespace Go.Proofs.YtgelmhldicmmdaaGreat
open Go.RowKit

theorem flatten_set {α : Type} {m : Nat} {css : List (List α)} {k : Nat} {c : List α} (h : ∀ x ∈ css, x.length = m) (hk : k < css.length) : (css.set k c).flatten = css.flatten.take (k * m) ++ c ++ css.flatten.drop (k * m + m) := by
  induction css generalizing k with
  | nil => simp at hk
  | cons a r ih =>
    have ha : a.length = m := h a List.mem_cons_self
    cases k with
    | zero =>
      simp only [List.set_cons_zero, List.flatten_cons, Nat.zero_mul, List.take_zero, List.nil_append, Nat.zero_add]
      rw [List.drop_append_of_le_length (by omega), List.drop_of_length_le (by omega), List.nil_append]
    | succ k =>
      simp only [List.set_cons_succ, List.flatten_cons]
      rw [ih (fun x hx => h x (List.mem_cons_of_mem _ hx)) (by simpa using hk)]
      rw [show (k + 1) * m = a.length + k * m by rw [Nat.succ_mul]; omega, List.take_length_add_append, Nat.add_assoc, List.drop_length_add_append]
      simp only [List.append_assoc]
theorem setCells_heap {w : World} {g : Nat} {cur : Array Value} {e : TypeId} {z : Nat × Nat} (h : w.heap[g]? = some (.cells cur e z)) (o : Nat) (vs : List Value) (hl : o + vs.length ≤ cur.size) :
    (w.setCells g o vs).heap[g]? = some (.cells (spl cur.toList o vs).toArray e z) := by
  induction vs generalizing w cur o with
  | nil => rw [spl_nil]; exact h
  | cons v r ih =>
    rw [World.setCells]
    have h1 : (w.setCell ⟨g, o, none⟩ v).heap[g]? = some (.cells (cur.setIfInBounds o v) e z) := by simp [World.setCell, Array.getElem?_modify, h]
    rw [ih h1 (o + 1) (by simp only [Array.size_setIfInBounds, List.length_cons] at hl ⊢; omega), Array.toList_setIfInBounds, spl_cons (by simp only [List.length_cons] at hl; simp only [Array.length_toList]; omega)]
/-- One of a row of one's own is another one now. -/
theorem MineR.put {w : World} {base m n cap t k : Nat} {e : TypeId} {css : List (List Value)} {c : List Value} (h : MineR w base e m (.slice (some ⟨t, 0, none⟩) n cap) n css) (hk : k < css.length) (hc : c.length = m) :
    MineR (w.setCells t (k * m) c) base e m (.slice (some ⟨t, 0, none⟩) n cap) n (css.set k c) ∧ w.there t (k * m) m := by
  obtain ⟨⟨h1, h2⟩, h3, h4⟩ := h
  rcases h2 with ⟨q, rfl⟩ | ⟨g, cap', cur, hv, hb, hg, hn, hm, hs, ht⟩
  · simp at h3; subst h3; simp at hk
  · injection hv with e1 e2 e3
    injection e1 with e1
    injection e1 with e1
    subst e1 e3
    have hkm : k * m + m ≤ n * m := by rw [← Nat.succ_mul]; exact Nat.mul_le_mul_right m (by omega)
    have hnm : n * m ≤ cap * m := Nat.mul_le_mul_right m hn
    refine ⟨⟨⟨?_, .inr ⟨t, cap, _, rfl, hb, setCells_heap hg (k * m) c (by omega), hn, hm, ?_, ?_⟩⟩, by simp [h3], fun x hx => ?_⟩, fun j hj => ?_⟩
    · rw [flatten_set h4 hk]; simp only [List.length_append, List.length_take, List.length_drop, hc]; omega
    · rw [List.size_toArray, spl_length (by simp only [Array.length_toList]; omega)]; simpa using hs
    · rw [flatten_set h4 hk, ← ht]
      unfold spl
      simp only [hc]
      have hcl : cur.toList.length = cap * m := by simpa using hs
      rw [List.take_append, List.take_of_length_le (by simp only [List.length_append, List.length_take, hc]; omega), List.take_take, Nat.min_eq_left (by omega), List.drop_take]
      congr 2
      simp only [List.length_append, List.length_take, hc]; omega
    · rcases List.mem_or_eq_of_mem_set hx with q | q
      · exact h4 x q
      · rw [q]; exact hc
    · have hcl : cur.size = cap * m := hs
      constructor
      · unfold World.cell?
        simp only [hg]
        rw [Array.getElem?_eq_getElem (by omega)]
        rfl
      · simp [World.frozen?, hg]

theorem map_fst_set {l : List (Nat × Nd)} {k g : Nat} {x x' : Nd} (h : l[k]? = some (g, x)) : (l.set k (g, x')).map Prod.fst = l.map Prod.fst := by
  rw [List.map_set]
  exact set_same (by rw [List.getElem?_map, h]; rfl)
theorem ptrs_set {l : List (Nat × Nd)} {k g : Nat} {x x' : Nd} (h : l[k]? = some (g, x)) : ptrs (l.set k (g, x')) = ptrs l := by
  unfold ptrs
  rw [List.map_set]
  exact set_same (by rw [List.getElem?_map, h]; rfl)
section
variable {w0 w w' : World} {X : Nat} {cnt md : Int} {lN l : List (Nat × Nd)} {ds : List (List Value)} {vl vw : Value}
/-- A node of them is another one; its block is the same. -/
theorem Wb.relist {fb : FB} {k g : Nat} {x x' : Nd} (h : Wb fb w0 w X cnt md lN l ds vl vw) (hk : l[k]? = some (g, x)) : Wb fb w0 w X cnt md lN (l.set k (g, x')) ds vl vw :=
  ⟨h.blk, by rw [List.length_set, ptrs_set hk]; exact h.lst, h.row, h.nd, h.below, h.lo, h.ne1, h.ne2, h.ne, h.fo⟩
/-- A document's node is laid over. -/
theorem Wb.put {fb : FB} {k t cap : Nat} {L' : List Value} (h : Wb fb w0 w X cnt md lN l ds vl (.slice (some ⟨t, 0, none⟩) ds.length cap)) (hk : k < ds.length) (hL : Dn L') :
    Wb fb w0 (w.setCells t (k * 261) L'.toArray.toList) X cnt md lN l (ds.set k L') vl (.slice (some ⟨t, 0, none⟩) ds.length cap) ∧ w.there t (k * 261) L'.toArray.size := by
  have K2 : Kept (· = t) w (w.setCells t (k * 261) L') := Kept.setCells _ _ _ _ _ rfl
  obtain ⟨m1, m2⟩ := h.row.put (k := k) (c := L') hk hL.len
  have hlt := h.row.lt t rfl
  refine ⟨⟨K2.blk h.blk (fun e => h.ne2 (by rw [e]; rfl)), h.lst.kept K2 (fun i q e => h.ne i q (by rw [e]; rfl)), by rw [List.length_set]; exact m1, h.nd.kept K2 (fun i e => .inr (.inr (.inr (.inl (by rw [e]; rfl))))), ?_, h.lo, h.ne1, h.ne2, h.ne, fun g c e => ⟨K2.blk (h.fo g c e).1 (fun q => (h.fo g c e).2.2.2.2 (by rw [q]; rfl)), (h.fo g c e).2⟩⟩, ?_⟩
  · exact h.below.trans (K2.below h.below.size (fun i e => e ▸ hlt.1))
  · rw [List.size_toArray, hL.len]; exact m2
end
theorem Docs.set_ {w0 : World} {l : List (Nat × Nd)} {ds : List (List Value)} {k g : Nat} {x x' : Nd} {L' : List Value} (h : Docs w0 l ds) (hk : l[k]? = some (g, x)) (hd : DocOf w0 (l.map Prod.fst) x' L') : Docs w0 (l.set k (g, x')) (ds.set k L') := by
  refine ⟨by simp [h.1], fun j p L hp hL => ?_⟩
  rw [map_fst_set hk]
  have hkl := (List.getElem?_eq_some_iff.1 hk).1
  have hkd : k < ds.length := by rw [h.1]; exact hkl
  rw [List.getElem?_set] at hp hL
  by_cases e : k = j
  · subst e
    rw [if_pos rfl, if_pos hkl] at hp
    rw [if_pos rfl, if_pos hkd] at hL
    injection hp with hp
    injection hL with hL
    subst hp hL
    exact hd
  · rw [if_neg e] at hp hL
    exact h.2 j p L hp hL
theorem Docs.more {w0 : World} {l : List (Nat × Nd)} {ds : List (List Value)} {g : Nat} {x : Nd} {L : List Value} (h : Docs w0 l ds) (hd : DocOf w0 (l.map Prod.fst) x L) : Docs w0 (l ++ [(g, x)]) (ds ++ [L]) := by
  refine ⟨by simp [h.1], fun j p M hp hM => ?_⟩
  rw [List.map_append]
  rcases getElem?_snoc hp with ⟨_, hp⟩ | ⟨e, rfl⟩
  · rcases getElem?_snoc hM with ⟨_, hM⟩ | ⟨e, rfl⟩
    · exact (h.2 j p M hp hM).more g
    · have := (List.getElem?_eq_some_iff.1 hp).1; have := h.1; omega
  · rcases getElem?_snoc hM with ⟨q, hM⟩ | ⟨_, rfl⟩
    · have := h.1; omega
    · exact hd.more g

section
variable {w0 : World} {gs : List Nat} {x : Nd} {L : List Value}
theorem KR.set_ {K : Nat → Int} {es : List Ent} (h : KR gs K es) (hu : Up es) (b : UInt8) {j g : Nat} (hj : gs[j]? = some g) (hj2 : j < 1000) : KR gs (fun i => if i = b.toNat then (j : Int) + 1 else K i) (setE es b (some ⟨g, 0, none⟩)) := fun i hi => by
  rw [has_set hu, get_set hu]
  by_cases e : i = b.toNat
  · simp only [if_pos e]; exact .inr ⟨j, g, rfl, hj2, hj, trivial, rfl⟩
  · simp only [if_neg e]; exact h i hi
theorem KR.drop_ {K : Nat → Int} {es : List Ent} (h : KR gs K es) (hu : Up es) (b : UInt8) : KR gs (fun i => if i = b.toNat then 0 else K i) (dropE es b) := fun i hi => by
  rw [has_drop hu, get_drop hu]
  by_cases e : i = b.toNat
  · simp only [if_pos e]; exact .inl ⟨trivial, trivial⟩
  · simp only [if_neg e]; exact h i hi

set_option maxRecDepth 100000 in
theorem doc_setpart (hd : DocOf w0 gs x L) (q : Int) (A' : Option Addr) (n' c' : Nat) (p : List UInt8) (hB : ∀ V, Below w0.heap.size w0 V → Byt V w0.heap.size A' n' p) :
    ∃ L', DocOf w0 gs (nSetPart x q p) L' ∧ ∀ w, Calls Tryz.prog 48 #[.agg L.toArray, .int .u64 q, .slice A' n' c'] w fun e w' => e = .returned (.tuple #[.agg L'.toArray, .int .i64 (closN x q)]) ∧ Below w.heap.size w w' := by
  obtain ⟨A, n, c, K, rfl, h2, h3⟩ := hd
  unfold nSetPart closN
  cases hm : mineB x.ow q
  · exact ⟨_, ⟨A, n, c, K, rfl, h2, h3⟩, fun w => rdsetpart_no q A' n' c' hm w⟩
  · exact ⟨_, ⟨A', n', c', K, rfl, hB, h3⟩, fun w => rdsetpart_yes q A' n' c' hm w⟩
set_option maxRecDepth 100000 in
theorem doc_setval (hd : DocOf w0 gs x L) (q v2 : Int) :
    ∃ L', DocOf w0 gs (nSetVal x q v2) L' ∧ ∀ w, Calls Tryz.prog 49 #[.agg L.toArray, .int .u64 q, .int .u64 v2] w fun e w' => e = .returned (.tuple #[.agg L'.toArray, .int .i64 (closN x q)]) ∧ Below w.heap.size w w' := by
  obtain ⟨A, n, c, K, rfl, h2, h3⟩ := hd
  unfold nSetVal closN
  cases hm : mineB x.ow q
  · exact ⟨_, ⟨A, n, c, K, rfl, h2, h3⟩, fun w => rdsetval_no q v2 hm w⟩
  · exact ⟨_, ⟨A, n, c, K, rfl, h2, h3⟩, fun w => rdsetval_yes q v2 hm w⟩
set_option maxRecDepth 100000 in
theorem doc_dropval (hd : DocOf w0 gs x L) (q : Int) :
    ∃ L', DocOf w0 gs (nDropVal x q) L' ∧ ∀ w, Calls Tryz.prog 51 #[.agg L.toArray, .int .u64 q] w fun e w' => e = .returned (.tuple #[.agg L'.toArray, .int .i64 (dropVN x q)]) ∧ Below w.heap.size w w' := by
  obtain ⟨A, n, c, K, rfl, h2, h3⟩ := hd
  obtain ⟨lf, ow, pt, vl, hs, es⟩ := x
  unfold nDropVal dropVN
  simp only at h2 h3 ⊢
  cases hm : mineB ow q
  · exact ⟨_, ⟨A, n, c, K, rfl, h2, h3⟩, fun w => rddropval_no q hm w⟩
  · cases lf
    · cases hs
      · exact ⟨_, ⟨A, n, c, K, rfl, h2, h3⟩, fun w => rddropval_none q hm w⟩
      · exact ⟨_, ⟨A, n, c, K, rfl, h2, h3⟩, fun w => rddropval_yes q hm w⟩
    · exact ⟨_, ⟨A, n, c, K, rfl, h2, h3⟩, fun w => rddropval_leaf q hm w⟩
set_option maxRecDepth 100000 in
theorem doc_dropkid (hd : DocOf w0 gs x L) (hu : Up x.es) (q : Int) (b : UInt8) :
    ∃ L', DocOf w0 gs (nDropKid x q b) L' ∧ ∀ w, Calls Tryz.prog 54 #[.agg L.toArray, .int .u64 q, .int .u8 (b.toNat : Int)] w fun e w' => e = .returned (.tuple #[.agg L'.toArray, .int .i64 (dropKN x q b)]) ∧ Below w.heap.size w w' := by
  obtain ⟨A, n, c, K, rfl, h2, h3⟩ := hd
  obtain ⟨lf, ow, pt, vl, hs, es⟩ := x
  unfold nDropKid dropKN
  simp only at h2 h3 hu ⊢
  cases hm : mineB ow q
  · exact ⟨_, ⟨A, n, c, K, rfl, h2, h3⟩, fun w => rddropkid_no q b hm w⟩
  · cases lf
    · have hz := h3.hk b.toNat b.toNat_lt
      rcases hz with ⟨z1, z2⟩ | ⟨z1, _, z2⟩
      · have e1 : dropE es b = es := by unfold dropE; rw [z2]; rfl
        have e2 : dropN es b = 6 := by unfold dropN; rw [z2]; rfl
        simp only [Bool.not_false, Bool.and_self, if_true, Bool.false_eq_true, if_false, e1, e2]
        exact ⟨_, ⟨A, n, c, K, rfl, h2, h3⟩, fun w => rddropkid_none q b hm z1 w⟩
      · have e2 : dropN es b = 0 := by unfold dropN; rw [z2]; rfl
        simp only [Bool.not_false, Bool.and_self, if_true, Bool.false_eq_true, if_false, e2]
        exact ⟨_, ⟨A, n, c, _, rfl, h2, h3.drop_ hu b⟩, fun w => rddropkid_yes q b hm z1 w⟩
    · exact ⟨_, ⟨A, n, c, K, rfl, h2, h3⟩, fun w => rddropkid_leaf q b hm w⟩
set_option maxRecDepth 100000 in
theorem doc_setkid (hd : DocOf w0 gs x L) (hu : Up x.es) (q : Int) (b : UInt8) (j : Nat) (hj : j ≤ gs.length) (hg : gs.length ≤ 1000) :
    ∃ L', DocOf w0 gs (nSetKid x q b (kp gs (j : Int))) L' ∧ ∀ w, Calls Tryz.prog 52 #[.agg L.toArray, .int .u64 q, .int .u8 (b.toNat : Int), .int .i64 (j : Int)] w fun e w' => e = .returned (.tuple #[.agg L'.toArray, .int .i64 (setKN x q (kp gs (j : Int)))]) ∧ Below w.heap.size w w' := by
  obtain ⟨A, n, c, K, rfl, h2, h3⟩ := hd
  obtain ⟨lf, ow, pt, vl, hs, es⟩ := x
  unfold nSetKid setKN
  simp only at h2 h3 hu ⊢
  cases hm : mineB ow q
  · exact ⟨_, ⟨A, n, c, K, rfl, h2, h3⟩, fun w => rdsetkid_no q b j hm w⟩
  · cases lf
    · cases j with
      | zero =>
        rw [show kp gs ((0 : Nat) : Int) = none from rfl]
        exact ⟨_, ⟨A, n, c, K, rfl, h2, h3⟩, fun w => rdsetkid_nil q b hm w⟩
      | succ j =>
        have hg1 : gs[j]? = some gs[j] := List.getElem?_eq_getElem (by omega)
        rw [show kp gs ((j + 1 : Nat) : Int) = some ⟨gs[j], 0, none⟩ by
          unfold kp
          rw [if_neg (by omega), show (((j + 1 : Nat) : Int) - 1).toNat = j by omega, hg1]
          rfl]
        have h4 := h3.set_ hu b hg1 (by omega)
        rw [show (j : Int) + 1 = ((j + 1 : Nat) : Int) by omega] at h4
        exact ⟨_, ⟨A, n, c, _, rfl, h2, h4⟩, fun w => rdsetkid_yes q b ((j + 1 : Nat) : Int) hm (by omega) w⟩
    · exact ⟨_, ⟨A, n, c, K, rfl, h2, h3⟩, fun w => rdsetkid_leaf q b j hm w⟩
end

/-- The world, beside it a step's own block sb and a document's node's gb. -/
structure Ws (fb : FB) (w0 w : World) (X : Nat) (cnt md : Int) (lN l : List (Nat × Nd)) (ds : List (List Value)) (vl vw : Value) (sb gb : Nat) (L : List Value) (sc : Array Value) : Prop where
  wb : Wb fb w0 w X cnt md lN l ds vl vw
  nn : Ns w w0.heap.size (fun i => NX fb X vl vw i ∨ i = sb ∨ i = gb) lN
  lg : Lst w gb L
  ls : Blk w sb sc
  lo : w0.heap.size ≤ sb ∧ w0.heap.size ≤ gb ∧ sb ≠ gb
  ne : ¬ NX fb X vl vw gb ∧ ¬ NX fb X vl vw sb
section
variable {w0 w w' : World} {X sb gb : Nat} {cnt md : Int} {lN l : List (Nat × Nd)} {ds : List (List Value)} {vl vw : Value} {L : List Value} {sc : Array Value}
theorem Ws.start {fb : FB} {W1 : World} (h : Wb fb w0 w X cnt md lN l ds vl vw) (hb : Below w.heap.size w W1) (ls : Blk W1 w.heap.size sc) (lg : Lst W1 (w.heap.size + 1) L) : Ws fb w0 W1 X cnt md lN l ds vl vw w.heap.size (w.heap.size + 1) L sc := by
  have hs := h.below.size
  refine ⟨h.on hb, (h.nd.more (fun i q => ?_)).below hb, lg, ls, ⟨hs, by omega, by omega⟩, fun q => by have := h.lt _ q; omega, fun q => by have := h.lt _ q; omega⟩
  rcases q with q | q | q
  · exact .inl q
  · exact .inr (by omega)
  · exact .inr (by omega)
theorem Ws.hN {fb : FB} (h : Ws fb w0 w X cnt md lN l ds vl vw sb gb L sc) : ∀ i, (NX fb X vl vw i ∨ i = sb ∨ i = gb) → i < w.heap.size := fun i q => by
  rcases q with q | rfl | rfl
  · exact h.wb.lt i q
  · exact h.ls.lt
  · exact Blk.lt h.lg
theorem Ws.on {fb : FB} (h : Ws fb w0 w X cnt md lN l ds vl vw sb gb L sc) (hb : Below w.heap.size w w') : Ws fb w0 w' X cnt md lN l ds vl vw sb gb L sc :=
  ⟨h.wb.on hb, h.nn.below hb, Blk.below h.lg hb (Blk.lt h.lg), h.ls.below hb h.ls.lt, h.lo, h.ne⟩
theorem Ws.node {fb : FB} {lN' : List (Nat × Nd)} (h : Ws fb w0 w X cnt md lN l ds vl vw sb gb L sc) (hn : Ns w' w0.heap.size (fun i => NX fb X vl vw i ∨ i = sb ∨ i = gb) lN') (hk : Kept (fun i => w0.heap.size ≤ i ∧ ¬ (NX fb X vl vw i ∨ i = sb ∨ i = gb)) w w') : Ws fb w0 w' X cnt md lN' l ds vl vw sb gb L sc :=
  ⟨h.wb.kept hk (fun _ q => ⟨q.1, fun z => q.2 (.inl z)⟩) (hn.more (fun _ q => .inl (.inl q))), hn, hk.blk h.lg (fun q => q.2 (.inr (.inr rfl))), hk.blk h.ls (fun q => q.2 (.inr (.inl rfl))), h.lo, h.ne⟩
theorem Ws.lay {fb : FB} {L' : List Value} (h : Ws fb w0 w X cnt md lN l ds vl vw sb gb L sc) (hl : L.length = 261) (hL : Dn L') :
    Ws fb w0 (w.setCells gb 0 L'.toArray.toList) X cnt md lN l ds vl vw sb gb L' sc ∧ w.there gb 0 L'.toArray.size := by
  have K2 : Kept (· = gb) w (w.setCells gb 0 L'.toArray.toList) := Kept.setCells _ _ _ _ _ rfl
  have n2 := h.nn.kept K2 (fun i e => .inr (.inr (.inr e)))
  exact ⟨⟨h.wb.kept K2 (fun i e => by rw [e]; exact ⟨h.lo.2.1, h.ne.1⟩) (n2.more (fun i q => .inl (.inl q))), n2, dn_over h.lg hl hL, K2.blk h.ls h.lo.2.2, h.lo, h.ne⟩,
    Lst.there h.lg (by rw [hl, List.size_toArray, hL.len]; exact Nat.le_refl _)⟩
end
end Go.Proofs.YtgelmhldicmmdaaGreat
