/-
  What the calls of package canon tell of a canonical tree; how pairs that came in are read; pairs beside a meter.
  What a list of pairs is that was collected; a row that is kept.
-/
import Derived.Test.YtidiinededalmaaGreatCanonU
import Derived.Test.YtidiinededalmaaGreatBuild
import Derived.Test.YtidiinededalmaaGreatCnLaw
import Derived.Test.YtidiinededalmaaGreatRow
import Derived.Test.YtidiinededalmaaGreatSort
import Derived.Deep.Slices
import Derived.Test.YtidiinededalmaaGreatCanRead
namespace Go.Proofs.YtidiinededalmaaGreat
open Go.ChangeShapes Go.WideShapes Go.ChangeAt Go.RowKit

theorem dpV_most {vs : List Vt} {M : Nat} (h : ∀ v ∈ vs, v.deep ≤ M) : dpV vs ≤ M := by
  unfold dpV
  have : ∀ (l : List Vt) (m : Nat), m ≤ M → (∀ v ∈ l, v.deep ≤ M) → l.foldl (fun m v => max m v.deep) m ≤ M := by
    intro l
    induction l with
    | nil => intro m hm _; exact hm
    | cons a r ih => intro m hm hl; exact ih _ (by have := hl a (by simp); show max m a.deep ≤ M; omega) (fun v hv => hl v (by simp [hv]))
  exact this vs 0 (Nat.zero_le _) h
theorem Fo.good_fine : ∀ (f : Fo) (pw : List UInt8) (d : Nat), f.good → ∀ v ∈ f.vis pw d, v.x.leaf = true ∨ 2 ≤ v.occ
  | .nil, _, _, _, v, hv => by cases hv
  | .cons b x k r, pw, d, ⟨h1, h2, h3⟩, v, hv => by
    simp only [Fo.vis, List.mem_cons, List.mem_append] at hv
    rcases hv with rfl | hv | hv
    · unfold okN at h1
      cases hl : x.leaf with
      | true => exact .inl rfl
      | false =>
        rw [hl] at h1
        simp only [Bool.false_eq_true, if_false] at h1
        exact .inr h1
    · exact Fo.good_fine k _ _ h2 v hv
    · exact Fo.good_fine r _ _ h3 v hv
theorem tgood_fine {x : Nn} {k : Fo} (h : tgood x k) (pw : List UInt8) (d : Nat) : ∀ v ∈ tvis x k pw d, v.x.leaf = true ∨ 2 ≤ v.occ := by
  obtain ⟨h1, h2⟩ := h
  intro v hv
  simp only [tvis, List.mem_cons] at hv
  rcases hv with rfl | hv
  · unfold okN at h1
    cases hl : x.leaf with
    | true => exact .inl rfl
    | false =>
      rw [hl] at h1
      simp only [Bool.false_eq_true, if_false] at h1
      exact .inr h1
  · exact Fo.good_fine k _ _ h2 v hv
theorem rsn_rel {ps : List PV} (h : Rsn ps) : Rise (rel 0 ps) := by
  rw [rel_zero]
  unfold Rise
  rw [List.pairwise_map]
  exact h
theorem rsn_keys {ps : List PV} (h : Rsn ps) : riseB (ps.map PV.key) = true := riseB_of (by rw [List.pairwise_map]; exact h)
/-- What is told of the canonical tree of pairs that rise. -/
structure CanF (L : List KV) (T : Nn × Fo) : Prop where
  list : tlist T.1 T.2 [] = L
  good : tgood T.1 T.2
theorem can_of (o : Int) {f : Nat} {ps : List PV} (hr : Rsn ps) (hne : ps ≠ []) (hf : ∀ p ∈ ps, p.key.length < f) : CanF (ps.map fun p => (p.key, p.val)) (cT o f (rel 0 ps)) := by
  have h := cT_spec o f (rel 0 ps) (by rw [rel_zero]; simpa using hne) (rsn_rel hr) (fun p hp => by
    rw [rel_zero] at hp
    obtain ⟨q, hq, rfl⟩ := List.mem_map.1 hp
    exact hf q hq)
  refine ⟨?_, h.2⟩
  rw [h.1, rel_zero]
  simp
section
variable {L : List KV} {T : Nn × Fo} (h : CanF L T)
include h
theorem CanF.points : (pointV (otvis (some T))).length + 1 ≤ L.length := by
  have := (tgood_points h.good [] 1).1
  rw [h.list] at this
  rw [pointV_len]
  exact this
theorem CanF.nodes : tnT T ≤ (pointV (otvis (some T))).length + L.length := by
  have := (tgood_points h.good [] 1).2
  rw [h.list, tvis_len] at this
  rw [pointV_len]
  exact this
theorem CanF.count : cntV (otvis (some T)) = L.length := by
  have := congrArg List.length (tvis_list T.1 T.2 [] 1)
  rw [h.list, List.length_map, listV_len] at this
  exact this
theorem CanF.way {M : Nat} (hM : ∀ p ∈ L, p.1.length ≤ M) : ∀ v ∈ otvis (some T), v.way.length ≤ M ∧ v.deep ≤ M + 1 := fun v hv => by
  obtain ⟨p, hp, hl⟩ := tgood_way h.good [] 1 v hv
  rw [h.list] at hp
  have h1 := tvis_deep hv
  have h2 := hM p hp
  omega
theorem CanF.depth {M : Nat} (hM : ∀ p ∈ L, p.1.length ≤ M) : dpV (otvis (some T)) ≤ M + 1 := dpV_most fun v hv => (h.way hM v hv).2
theorem CanF.fits (hM : ∀ p ∈ L, p.1.length ≤ 900000) (hL : L.length ≤ 400000) : Fits (some T) := by
  refine ⟨fun v hv => by have := h.way hM v hv; omega, ?_⟩
  have h1 := h.points
  have h2 := h.nodes
  have h3 := tvis_len T.1 T.2 [] 1
  show (tvis T.1 T.2 [] 1).length ≤ _
  unfold tnT at h2
  omega
theorem CanF.fine (hM : ∀ p ∈ L, p.1.length ≤ 65535) : (otvis (some T)).all Vt.fine = true := by
  rw [List.all_eq_true]
  intro v hv
  unfold Vt.fine
  rw [decide_eq_true (h.way hM v hv).1, Bool.true_and]
  rcases tgood_fine h.good [] 1 v hv with q | q
  · rw [q]; rfl
  · rw [decide_eq_true q, Bool.or_true]
theorem CanF.listed : listV (otvis (some T)) = L.map fun p => (p.1, [.int .u64 p.2]) := by
  have := tvis_list T.1 T.2 [] 1
  rw [h.list] at this
  exact this
end

set_option maxRecDepth 100000 in
theorem open_kps {H : Type} {enc : TypeId × Value → H} {W : World} {base : Nat} {v : Value} {d : DataW H} {p : List MemPlace}
    (hok : Value.okWide Tryz.prog W .any base 22 v) (h : DataW.Trod enc Tryz.prog W 0 (fun _ => true) true 22 v d p) :
    ∃ A n c ps, v = .slice A n c ∧ Prs W W.heap.size A n ps ∧ Kps W W.heap.size ps ∧ n ≤ c ∧ ∀ p ∈ ps, 0 ≤ p.val ∧ p.val ≤ 18446744073709551615 := by
  obtain ⟨a0, len0, cap0, rfl⟩ := okWide_slice Tryz.underlying22 hok
  obtain ⟨fuel, hf⟩ := h
  rcases Go.Deep.open_slice Tryz.underlying22 hf with ⟨hcs, _⟩ | ⟨a, len, cap, m, n, D, Pl, hcs, _, hl, hm, hmm, _, hi⟩
  · simp [Value.cells] at hcs
    obtain ⟨rfl, rfl, rfl⟩ := hcs
    exact ⟨none, 0, 0, [], rfl, Prs.none_, fun p hp => (by cases hp), Nat.le_refl _, fun p hp => (by cases hp)⟩
  · simp [Value.cells] at hcs
    obtain ⟨rfl, rfl, rfl⟩ := hcs
    simp only [if_true] at hmm
    subst hmm
    rw [cells_pair] at hi
    obtain ⟨ps, hps, hq⟩ := list_of (α := PV) (m := len0) (Q := fun j p => W.cell? (a.add (j * 2)) = some (.slice p.A p.n p.c) ∧ W.cell? (a.add (j * 2 + 1)) = some (.int .u64 p.val) ∧ Byt W W.heap.size p.A p.n p.key ∧ p.n ≤ p.c ∧ 0 ≤ p.val ∧ p.val ≤ 18446744073709551615) (fun j hj => by
      obtain ⟨cs', hc, ht'⟩ := hi j (by omega)
      obtain ⟨y0, y1, n', _, hlen, hy0, hy1⟩ := trod_struct2 Tryz.underlying34 ht'
      rw [cells_pair] at hlen
      obtain ⟨_, _, hat⟩ := World.cells?_some hc
      match cs', hlen with
      | [x0, x1], _ =>
        have e0 := hat 0 (by omega)
        have e1 := hat 1 (by omega)
        rw [cells_bytes] at hy0
        rw [cells_u64] at hy1
        simp at hy0 hy1
        obtain ⟨A, n, c, l, rfl, hb, hnc⟩ := trod_byt hy0
        obtain ⟨z, hz, _, hwf⟩ := DataW.trod_int Tryz.underlying29 hy1
        simp at hz
        subst hz
        refine ⟨⟨A, n, c, l, z⟩, ?_, ?_, hb, hnc, ?_⟩
        · have : (a.add (j * 2)).add 0 = a.add (j * 2) := by unfold Addr.add; simp
          rw [this] at e0
          simpa using e0
        · rw [add_of_add] at e1
          simpa using e1
        · have hz2 : 0 ≤ z ∧ z ≤ 18446744073709551615 := by simpa [Lit.wf, IntKind.min, IntKind.max, IntKind.signed, IntKind.bits] using hwf
          exact hz2)
    refine ⟨_, _, _, ps, rfl, ⟨hps, by omega, fun j p hj => (hq j p hj).2.2.1, fun hn => ⟨a, rfl, ?_, fun j p hj => ⟨(hq j p hj).1, (hq j p hj).2.1⟩⟩⟩, fun p hp => ?_, by omega, fun p hp => ?_⟩
    · have hp0 : ps[0]? = some (ps[0]'(by omega)) := List.getElem?_eq_getElem (by omega)
      have := lt_of_cell (hq 0 _ hp0).1
      rwa [block_of_add] at this
    · obtain ⟨j, hj⟩ := List.mem_iff_getElem?.1 hp
      exact ⟨(hq j p hj).2.2.1, (hq j p hj).2.2.2.1⟩
    · obtain ⟨j, hj⟩ := List.mem_iff_getElem?.1 hp
      exact (hq j p hj).2.2.2.2

/-- Pairs lie where what is written does not reach. -/
theorem Prs.keptM {w w' : World} {B n : Nat} {A : Option Addr} {ps : List PV} {D : Nat → Prop} (h : Prs w B A n ps) (hB : B ≤ w.heap.size) (hk : Kept D w w') (hrow : ∀ ad, A = some ad → 0 < n → ¬ D ad.block) (hkey : ∀ p ∈ ps, ∀ i, Pb p.A p.key i → ¬ D i) : Prs w' B A n ps := by
  refine ⟨h.1, h.2.1, fun j p hp => ?_, fun hn => ?_⟩
  · have hb := h.2.2.1 j p hp
    have e := hb.1
    rw [← e] at hb ⊢
    exact hb.keepPb fun q hq => hk.cell (by have := hb.ltPb hq; omega) (hkey p (List.mem_of_getElem? hp) _ hq)
  · obtain ⟨ad, e, hb, hc⟩ := h.2.2.2 hn
    refine ⟨ad, e, hb, fun j p hp => ⟨(hk.cell ?_ ?_).trans (hc j p hp).1, (hk.cell ?_ ?_).trans (hc j p hp).2⟩⟩
    · rw [block_of_add]; omega
    · rw [block_of_add]; exact hrow ad e hn
    · rw [block_of_add]; omega
    · rw [block_of_add]; exact hrow ad e hn
theorem PrM.of_prs {w : World} {m : Option Nat} {B B0 base n : Nat} {A : Option Addr} {ps : List PV} (h : Prs w B A n ps) (hB : B ≤ w.heap.size) (hk : Kps w B0 ps) (hrow : ∀ ad, A = some ad → 0 < n → base ≤ ad.block) (hm : ∀ i, m = some i → B0 ≤ i ∧ i < base) : PrM w m B A n ps := by
  have hkey : ∀ p ∈ ps, ∀ i, Pb p.A p.key i → ¬ m = some i := fun p hp i hi e => by
    have h1 := (hk p hp).1
    have h2 := h1.1
    rw [← h2] at h1
    have := h1.ltPb hi
    have := hm i e
    omega
  exact ⟨fun W' hW => h.keptM hB hW (fun ad e hn q => by have := hrow ad e hn; have := hm _ q; omega) hkey, hkey, fun p hp => (hk p hp).2⟩
end Go.Proofs.YtidiinededalmaaGreat

namespace Go.Proofs.YtidiinededalmaaGreat
open Go.RowKit

/-- Pairs that were listed are pairs. -/
theorem kys_pvs {w : World} {B : Nat} : ∀ {ys : List Ky} {L : List KV}, (∀ y ∈ ys, Byt w B y.A y.key.length y.key ∧ y.key.length ≤ y.c) → ys.map (fun y => (y.key, y.more)) = L.map (fun p => (p.1, [Value.int .u64 p.2])) →
    ∃ ps : List PV, ps.map pvc = ys.map Ky.cells ∧ Kps w B ps ∧ ps.map (fun p => (p.key, p.val)) = L
  | [], [], _, _ => ⟨[], rfl, fun _ h => (by cases h), rfl⟩
  | y :: ys, p :: L, h, e => by
    simp only [List.map_cons, List.cons.injEq, Prod.mk.injEq] at e
    obtain ⟨⟨e1, e2⟩, e3⟩ := e
    obtain ⟨ps, h1, h2, h3⟩ := kys_pvs (fun y hy => h y (List.mem_cons_of_mem _ hy)) e3
    have hy := h y (List.mem_cons_self ..)
    refine ⟨⟨y.A, y.key.length, y.c, y.key, p.2⟩ :: ps, ?_, fun q hq => ?_, ?_⟩
    · rw [List.map_cons, List.map_cons, h1]
      unfold Ky.cells
      rw [e2]
    · rcases List.mem_cons.1 hq with rfl | hq
      · exact hy
      · exact h2 q hq
    · rw [List.map_cons, h3, e1]
  | [], p :: L, _, e => by simp at e
  | y :: ys, [], _, e => by simp at e
theorem Kys.prs {w : World} {B : Nat} {A : Option Addr} {ys : List Ky} {L : List KV} (h : Kys w B A 2 ys) (e : ys.map (fun y => (y.key, y.more)) = L.map (fun p => (p.1, [Value.int .u64 p.2]))) :
    ∃ ps : List PV, Prs w B A ys.length ps ∧ Kps w B ps ∧ ps.map (fun p => (p.key, p.val)) = L := by
  obtain ⟨ps, h1, h2, h3⟩ := kys_pvs h.2 e
  have h4 := h.1
  rw [← h1] at h4
  exact ⟨ps, Prs.of_rws h4 h2, h2, h3⟩
theorem MineR.keptK {D : Nat → Prop} {w w' : World} {base k n : Nat} {e : TypeId} {v : Value} {css : List (List Value)} (h : MineR w base e k v n css) (hk : Kept D w w') (hD : ∀ i, v.ownBlock = some i → ¬ D i) : MineR w' base e k v n css := by
  refine ⟨⟨h.1.1, ?_⟩, h.2⟩
  rcases h.1.2 with q | ⟨g, cap, cur, rfl, h1, h2, h3⟩
  · exact .inl q
  · exact .inr ⟨g, cap, cur, rfl, h1, (hk.block g (Array.getElem?_eq_some_iff.1 h2).1 (hD g rfl)).trans h2, h3⟩
theorem still_drew {a w : World} (h : Still a w) : Still a w.drew := h.trans ⟨1, rfl⟩
end Go.Proofs.YtidiinededalmaaGreat
