/-
  A range over slices.Backward whose rounds make new memory alone; the loop's struct is boxed. What slices.Backward gives of forks.
-/
import Derived.Test.YtidiinededalmaaGreatTree
import Derived.WalkKit
import Derived.OwnWalkIn
import Derived.TacticsInMore
namespace Go.Proofs.YtidiinededalmaaGreat
open Go.RowKit Go.Shelf
attribute [local go_sem] Oper.semAt_some

/-- What an iterator promises that comes by the values of xs, each of which is handed over as some arguments. -/
def SeqB (n₀ : Nat) (P : Program) (gf : Nat) (lb : Array Value) (xs : List (Array Value)) (w : World) : Prop :=
  ∀ (m l : Nat) (J : Nat → World → Prop) (Jx : World → Prop) (W : World), Below w.heap.size w W → n₀ ≤ W.heap.size →
    (∀ k A B, J k A → Below A.heap.size A B → J k B) →
    (∀ m' k W1 x, J k W1 → xs[k]? = some x → n₀ ≤ W1.heap.size →
      YieldAt Fence.wide m' P l x W1 fun e W' => (e = .returned (.bool true) ∧ J (k + 1) W' ∧ Below n₀ W1 W') ∨ (e = .returned (.bool false) ∧ Jx W')) →
    J 0 W →
    CallsIn Fence.wide m P gf (#[.func (.yield l) #[] #[]] ++ lb) W fun e W' => (∃ v, e = .returned v) ∧ (J xs.length W' ∨ Jx W')

/-- How the body of a round may be left. -/
def backPost (n₀ : Nat) (I : Nat → World → Prop) (Ix : Code → World → Prop) (k : Nat) (W : World) : Exit → Act → World → Prop
  | .normal, _, W' => KeepsOthers W W' ∧ Below n₀ W W' ∧ I k W'
  | .ret, _, W' => KeepsOthers W W' ∧ Ix .ret W'
  | .exit id, _, W' => KeepsOthers W W' ∧ Ix (.exit id) W'
  | .goto t, _, W' => KeepsOthers W W' ∧ Ix (.goto t) W'
  | .panic _, _, _ => False
  | .outgrown, _, _ => False

set_option maxHeartbeats 2000000 in
/-- The law of such a range, of two variables, the second of which is boxed: its cells are cs k. -/
theorem range_back {P : Program} {g : Operand} {p1 p2 : Tmp} {assign body : Code} {Q : Exit → Act → World → Prop} {a : Act} {w : World} {n : Nat}
    (h1 : 1 ≤ n) {gf : Nat} {lb : Array Value} (hg : a.eval g = .func (.func gf) #[] lb) (eg : ∀ args w, (callFunc gf args).run P w = .ok (.enter gf args) w)
    {xs : List (Value × Array Value)} {n₀ : Nat} (hn₀ : n₀ ≤ w.heap.size) (hseq : SeqB n₀ P gf lb (xs.map fun x => #[x.1, .agg x.2]) w)
    (I : Nat → World → Prop) (Ix : Code → World → Prop)
    (hI : ∀ k A B, I k A → Stp1 n₀ (fun _ => False) A B → I k B)
    (hIx : ∀ c A B, Ix c A → Stp1 n₀ (fun _ => False) A B → Ix c B)
    (h0 : I 0 w) (a₁ : Nat → Value × Array Value → Act)
    (hassign : ∀ (l : Nat) (x : Value × Array Value) (W : World) (K : Act → World → Prop), (∃ k : Nat, xs[k]? = some x) → (∀ W', Blk W' W.heap.size x.2 → Below W.heap.size W W' → KeepsOthers W W' → W.heap.size < W'.heap.size → K (a₁ W.heap.size x) W') →
      assign.wpIn (Fence.wide.inRound l) (n - 1 - 1) P (Exit.then K (fun _ _ _ => False)) { tmps := ((#[p1, p2]).zip #[x.1, .agg x.2]).foldl (fun t (p, v) => t.setIfInBounds p v) a.tmps, defers := [] } W)
    (hbody : ∀ (l : Nat) (k : Nat) (x : Value × Array Value) (bx : Nat) (U : World), I k U → xs[k]? = some x → n₀ ≤ bx → Blk U bx x.2 →
      body.wpIn (Fence.wide.inRound l) (n - 1 - 1) P (backPost n₀ I Ix (k + 1) U) (a₁ bx x) U)
    (hdone : ∀ (D : Nat) (W : World), w.heap.size ≤ D → I xs.length W → W.heap[D]? = some (.deferred (some [])) → Q .normal { a with defers := { target := .collected D, args := #[] } :: a.defers } W)
    (hstop : ∀ (D : Nat) (c : Code) (W : World), w.heap.size ≤ D → Ix c W → W.heap[D]? = some (.deferred (some [])) → c.wpIn Fence.wide n P Q { a with defers := { target := .collected D, args := #[] } :: a.defers } W) :
    (Code.rangeFunc g #[p1, p2] assign body).wpIn Fence.wide n P Q a w := by
  refine wpIn_rangeFunc ?_
  intro fn hfn
  rw [show Fence.wide.round = none from rfl]
  obtain ⟨rec, hrec⟩ : ∃ rec : LoopState → Option Code → Loop, rec = fun st pe => { state := st, pending := pe, fn, tmps := a.tmps, params := #[p1, p2], assign, body, defers := w.heap.size } := ⟨_, rfl⟩
  obtain ⟨W1, hW1⟩ : ∃ W1, (w.alloc (.deferred (some []))).alloc (.loop (rec .ready none)) = W1 := ⟨_, rfl⟩
  have hL1 : W1.heap[w.heap.size + 1]? = some (.loop (rec .ready none)) := by
    rw [← hW1]; have := World.alloc_heap_new (w.alloc (.deferred (some []))) (.loop (rec .ready none)); rwa [World.size_alloc] at this
  have hK1 : W1.heap[w.heap.size]? = some (.deferred (some [])) := by
    rw [← hW1]; exact (Below.heap_alloc _ _ _ (by simp)).trans (World.alloc_heap_new w _)
  have hbW : Below w.heap.size w W1 := by
    rw [← hW1]; exact ((Below.refl _ w).alloc (Nat.le_refl _) _).alloc (by simp) _
  have hsz : W1.heap.size = w.heap.size + 2 := by rw [← hW1]; simp
  have hI1 : I 0 W1 := hI _ _ _ h0 (Stp1.of_kept (Kept.of_below hbW) (fun _ q => q.elim) hn₀)
  refine ⟨w.heap.size + 1, [{ target := .collected w.heap.size, args := #[] }], W1, { target := .fn (.func gf) lb, args := #[.func (.yield (w.heap.size + 1)) #[] #[]] }, W1, gf,
    #[.func (.yield (w.heap.size + 1)) #[] #[]] ++ lb, W1, ?_, ?_, ?_, ?_, fun _ => h1, ?_⟩
  · rw [← hW1, hrec]; exact run_enterLoop_outer _ _ _ _ _
  · simp only [resolve, hg]
    simp [go_sem]
  · intro f' hf'; exact trivial
  · simp [invoke, go_sem, eg]
  · refine (hseq (n - 1) (w.heap.size + 1)
      (fun k W => I k W ∧ W.heap[w.heap.size + 1]? = some (.loop (rec .ready none)) ∧ W.heap[w.heap.size]? = some (.deferred (some [])) ∧ n₀ ≤ W.heap.size)
      (fun W => ∃ c, Ix c W ∧ W.heap[w.heap.size + 1]? = some (.loop (rec .done (some c))) ∧ W.heap[w.heap.size]? = some (.deferred (some [])))
      W1 hbW (by omega) ?_ ?_ ⟨hI1, hL1, hK1, by omega⟩).mono ?_
    · rintro k A B ⟨i1, i2, i3, i4⟩ hb
      have l2 := (Array.getElem?_eq_some_iff.1 i2).1
      have hk : Kept (fun _ => False) A B := Kept.of_below hb
      exact ⟨hI _ _ _ i1 (Stp1.of_kept hk (fun _ q => q.elim) i4), (hk.block _ (by omega) (fun q => q)).trans i2, (hk.block _ (by omega) (fun q => q)).trans i3, Nat.le_trans i4 hk.size⟩
    · -- ONE ROUND
      rintro m' k W x0 ⟨hi, hl, hk, hsW⟩ hx0 _
      rw [List.getElem?_map] at hx0
      obtain ⟨x, hx, rfl⟩ := Option.map_eq_some_iff.1 hx0
      have hlt : w.heap.size + 1 < W.heap.size := (Array.getElem?_eq_some_iff.1 hl).1
      have hy := run_yield (P := P) (args := #[x.1, .agg x.2]) hl (by rw [hrec]; rfl)
      rw [hrec] at hy
      refine ⟨fn, _, assign, body, hy, RoundIn.any_ (m := n - 1 - 1) (roundIn_of_wpIn hfn (hassign _ x W _ ⟨k, hx⟩ ?_))⟩
      clear hy
      intro Wa hba hbl hko hla
      have hia : I k Wa := hI _ _ _ hi (Stp1.of_kept (Kept.of_below hbl) (fun _ q => q.elim) hsW)
      have hla2 : Wa.heap[w.heap.size + 1]? = some (.loop (rec .ready none)) := hko.same _ _ hl rfl
      have hka2 : Wa.heap[w.heap.size]? = some (.deferred (some [])) := hko.same _ _ hk rfl
      have hlta : w.heap.size + 1 < Wa.heap.size := by omega
      have hbnW : Below n₀ W Wa := hbl.mono hsW
      refine ⟨_, run_beginRound hla2 (by rw [hrec]), ?_⟩
      obtain ⟨U, hU⟩ : ∃ U, U = Wa.putObj (w.heap.size + 1) (.loop { rec .ready none with state := .busy }) := ⟨_, rfl⟩
      rw [← hU]
      have hsU : U.heap.size = Wa.heap.size := by rw [hU]; simp
      have hl2 : U.heap[w.heap.size + 1]? = some (.loop { rec .ready none with state := .busy }) := by rw [hU]; exact World.putObj_heap_same hlta
      have hk2 : U.heap[w.heap.size]? = some (.deferred (some [])) := by rw [hU]; exact (World.putObj_heap_other (by omega)).trans hka2
      have hpB : ∀ (V : World) (o : Obj), n₀ ≤ V.heap.size → Below n₀ V (V.putObj (w.heap.size + 1) o) := fun V o hV => (Kept.put_obj V (w.heap.size + 1) o).below hV (fun i e => by omega)
      have hbU : Below n₀ W U := by rw [hU]; exact hbnW.trans (hpB _ _ (by omega))
      have hiU : I k U := by rw [hU]; exact hI _ _ _ hia (Stp1.put_obj _ _ hla2 rfl (by omega))
      have hbxU : Blk U W.heap.size x.2 := by
        obtain ⟨t, hb⟩ := hba
        refine ⟨t, ?_⟩
        rw [hU]; exact (World.putObj_heap_other (by omega)).trans hb
      refine wpIn_mono (hbody _ k x W.heap.size U hiU hx hsW hbxU) ?_
      have fin : ∀ (jump : Option Code) (W3 : World), KeepsOthers U W3 →
          (Instr.endRound (w.heap.size + 1) jump).run P W3 = .ok (.bool jump.isNone) (W3.putObj (w.heap.size + 1) (.loop (rec (if jump.isNone then .ready else .done) jump))) ∧
          W3.heap[w.heap.size + 1]? = some (.loop { rec .ready none with state := .busy }) ∧
          (W3.putObj (w.heap.size + 1) (.loop (rec (if jump.isNone then .ready else .done) jump))).heap[w.heap.size + 1]? = some (.loop (rec (if jump.isNone then .ready else .done) jump)) ∧
          (W3.putObj (w.heap.size + 1) (.loop (rec (if jump.isNone then .ready else .done) jump))).heap[w.heap.size]? = some (.deferred (some [])) := fun jump W3 hk3 => by
        have hl3 := hk3.same _ _ hl2 rfl
        have := run_endRound (P := P) jump hl3
        rw [hrec] at this ⊢
        exact ⟨this, by rw [hrec] at hl3; exact hl3, World.putObj_heap_same (Array.getElem?_eq_some_iff.1 hl3).1, (World.putObj_heap_other (by omega)).trans (hk3.same _ _ hk2 rfl)⟩
      have out : ∀ (c : Code) (W3 : World), KeepsOthers U W3 → Ix c W3 → ∃ u w₂, (Instr.endRound (w.heap.size + 1) (some c)).run P W3 = .ok u w₂ ∧
          ((Ending.returned u = .returned (.bool true) ∧ (I (k + 1) w₂ ∧ w₂.heap[w.heap.size + 1]? = some (.loop (rec .ready none)) ∧ w₂.heap[w.heap.size]? = some (.deferred (some [])) ∧ n₀ ≤ w₂.heap.size) ∧ Below n₀ W w₂) ∨
            (Ending.returned u = .returned (.bool false) ∧ ∃ c, Ix c w₂ ∧ w₂.heap[w.heap.size + 1]? = some (.loop (rec .done (some c))) ∧ w₂.heap[w.heap.size]? = some (.deferred (some [])))) := fun c W3 hk3 hi3 => by
        obtain ⟨hr, hl3, hl4, hk4⟩ := fin (some c) W3 hk3
        exact ⟨_, _, hr, .inr ⟨rfl, c, hIx _ _ _ hi3 (Stp1.put_obj _ _ hl3 rfl (by omega)), hl4, hk4⟩⟩
      rintro e a3 W3 hp
      cases e with
      | normal =>
        obtain ⟨hk3, hkp3, hi3⟩ := hp
        obtain ⟨hr, hl3, hl4, hk4⟩ := fin none W3 hk3
        have h3 := hkp3.size
        refine ⟨_, _, hr, .inl ⟨rfl, ⟨hI _ _ _ hi3 (Stp1.put_obj _ _ hl3 rfl (by omega)), hl4, hk4, by simp; omega⟩, (hbU.trans hkp3).trans (hpB _ _ (by omega))⟩⟩
      | ret => exact out .ret W3 hp.1 hp.2
      | exit id => exact out (.exit id) W3 hp.1 hp.2
      | goto t => exact out (.goto t) W3 hp.1 hp.2
      | panic ch => exact hp.elim
      | outgrown => exact hp.elim
    · -- BEHIND THE ITERATOR
      rw [List.length_map]
      rintro e W2 ⟨⟨v, rfl⟩, (⟨hi, hl, hk, hs2⟩ | ⟨c, hi, hl, hk⟩)⟩
      · exact ⟨none, _, by have := run_endLoop (P := P) hl (by rw [hrec]; simp); rw [hrec] at this; exact this, hdone _ _ (Nat.le_refl _) (hI _ _ _ hi (Stp1.put_obj _ _ hl rfl (by omega))) ((World.putObj_heap_other (by omega)).trans hk)⟩
      · exact ⟨some c, _, by have := run_endLoop (P := P) hl (by rw [hrec]; simp); rw [hrec] at this; exact this, hstop _ c _ (Nat.le_refl _) (hIx _ _ _ hi (Stp1.put_obj _ _ hl rfl (by omega))) ((World.putObj_heap_other (by omega)).trans hk)⟩
end Go.Proofs.YtidiinededalmaaGreat
