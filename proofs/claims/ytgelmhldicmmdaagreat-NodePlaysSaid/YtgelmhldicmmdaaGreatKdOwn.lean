/-
  Kids that lie in blocks from B on, none of them in N: what is asked of them, what is done with them.
-/
import Derived.Test.YtgelmhldicmmdaaGreatKdCopy
namespace Go.Proofs.YtgelmhldicmmdaaGreat
open Go.RowKit

/-- Kids in blocks from B on, what stands for them not in N. -/
def KOwn (B : Nat) (N : Nat → Prop) (w : World) (g : Nat) (es : List Ent) : Prop := ∃ o, Kr w g o (kindN es.length) es ∧ ∀ i, o.D i → B ≤ i ∧ ¬ N i
section
variable {w w' : World} {g B : Nat} {es es' : List Ent} {N N' : Nat → Prop}
theorem KOwn.kept (h : KOwn B N w g es) {D : Nat → Prop} (hk : Kept D w w') (hg : ¬ D g) (hD : ∀ i, D i → i < B ∨ N i) : KOwn B N w' g es := by
  obtain ⟨o, h1, h2⟩ := h
  refine ⟨o, h1.kept hk (fun i hi => ?_), h2⟩
  rcases hi with rfl | hi
  · exact hg
  · intro q
    have := h2 i hi
    rcases hD i q with q | q
    · omega
    · exact this.2 q
theorem KOwn.below (h : KOwn B N w g es) (hk : Below w.heap.size w w') : KOwn B N w' g es := h.kept (D := fun _ => False) (Kept.of_below hk) (fun q => q) (fun _ q => q.elim)
theorem KOwn.still (h : KOwn B N w g es) (hs : Still w w') : KOwn B N w' g es := by
  obtain ⟨o, h1, h2⟩ := h; exact ⟨o, h1.still hs, h2⟩
theorem KOwn.drewN (h : KOwn B N w g es) (n : Nat) : KOwn B N (w.drewN n) g es := h.still ⟨n, rfl⟩
/-- One block more that is none of theirs, since it is new. -/
theorem KOwn.more (h : KOwn B N w g es) {k : Nat} (hk : w.heap.size ≤ k) : KOwn B (fun i => N i ∨ i = k) w g es := by
  obtain ⟨o, h1, h2⟩ := h
  refine ⟨o, h1, fun i hi => ⟨(h2 i hi).1, fun q => ?_⟩⟩
  rcases q with q | q
  · exact (h2 i hi).2 q
  · have := h1.lt (.inr hi); omega
theorem KOwn.fewer (h : KOwn B N w g es) (hN : ∀ i, N' i → N i) : KOwn B N' w g es := by
  obtain ⟨o, h1, h2⟩ := h; exact ⟨o, h1, fun i hi => ⟨(h2 i hi).1, fun q => (h2 i hi).2 (hN i q)⟩⟩
theorem KOwn.up (h : KOwn B N w g es) : Up es := by obtain ⟨o, h1, _⟩ := h; exact h1.is.up
theorem KOwn.lt (h : KOwn B N w g es) : g < w.heap.size := by obtain ⟨o, h1, _⟩ := h; exact h1.lt0
theorem KOwn.few (h : KOwn B N w g es) : es.length ≤ 256 := by obtain ⟨o, h1, _⟩ := h; have := h1.is.few; omega
set_option maxRecDepth 100000 in
/-- What is done with them: what is below B, and what is in N, stays. -/
theorem KOwn.call (h : KOwn B N w g es) (hB : B ≤ w.heap.size) (hN : ∀ i, N i → i < w.heap.size) {f : FuncId} {args : Array Value} {n : Int}
    (hc : ∀ o, Kr w g o (kindN es.length) es → Calls Tryz.prog f args w fun e w' => e = .returned (.int .i64 n) ∧ KdPost w w' g o es') :
    Calls Tryz.prog f args w fun e w' => e = .returned (.int .i64 n) ∧ KOwn B N w' g es' ∧ Kept (fun i => i = g ∨ B ≤ i ∧ ¬ N i) w w' := by
  obtain ⟨o, h1, h2⟩ := h
  refine (hc o h1).mono ?_
  rintro e w' ⟨rfl, o', k1, k2, k3⟩
  refine ⟨rfl, ⟨o', k1, fun i hi => ?_⟩, k3.mono (fun i q => ?_)⟩
  · rcases k2 i hi with q | q
    · exact h2 i q
    · exact ⟨by omega, fun q' => by have := hN i q'; omega⟩
  · rcases q with q | q
    · exact .inl q
    · exact .inr (h2 i q)
set_option maxRecDepth 100000 in
theorem KOwn.set_ (h : KOwn B N w g es) (hB : B ≤ w.heap.size) (hN : ∀ i, N i → i < w.heap.size) (b : UInt8) (x : Th) (z : Int) (hz : z = (b.toNat : Int)) :
    Calls Tryz.prog 40 #[.pointer (some ⟨g, 0, none⟩), .int .u8 z, .pointer x] w fun e w' => e = .returned (.int .i64 0) ∧ KOwn B N w' g (setE es b x) ∧ Kept (fun i => i = g ∨ B ≤ i ∧ ¬ N i) w w' :=
  h.call hB hN (fun _ hk => kset_any hk b x z hz)
set_option maxRecDepth 100000 in
theorem KOwn.drop_ (h : KOwn B N w g es) (hB : B ≤ w.heap.size) (hN : ∀ i, N i → i < w.heap.size) (b : UInt8) (z : Int) (hz : z = (b.toNat : Int)) :
    Calls Tryz.prog 69 #[.pointer (some ⟨g, 0, none⟩), .int .u8 z] w fun e w' => e = .returned (.int .i64 (dropN es b)) ∧ KOwn B N w' g (dropE es b) ∧ Kept (fun i => i = g ∨ B ≤ i ∧ ¬ N i) w w' :=
  h.call hB hN (fun _ hk => kdrop_any hk b z hz)
set_option maxRecDepth 100000 in
theorem KOwn.get_ (h : KOwn B N w g es) (b : UInt8) (z : Int) (hz : z = (b.toNat : Int)) : Calls Tryz.prog 43 #[.pointer (some ⟨g, 0, none⟩), .int .u8 z] w fun e w' => e = .returned (.tuple #[.pointer (getE es b.toNat), .bool (hasE es b.toNat)]) ∧ Still w w' := by
  obtain ⟨o, h1, _⟩ := h; subst hz; exact kget_any h1 b
set_option maxRecDepth 100000 in
theorem KOwn.next_ (h : KOwn B N w g es) (a : Int) (ha : -9223372036854775808 ≤ a) : Calls Tryz.prog 55 #[.pointer (some ⟨g, 0, none⟩), .int .i64 a] w fun e w' => e = .returned (entV (nextE es a)) ∧ Still w w' := by
  obtain ⟨o, h1, _⟩ := h; exact knext_any h1 a ha
set_option maxRecDepth 100000 in
theorem KOwn.prev_ (h : KOwn B N w g es) (a : Int) (ha : a ≤ 9223372036854775807) : Calls Tryz.prog 56 #[.pointer (some ⟨g, 0, none⟩), .int .i64 a] w fun e w' => e = .returned (entV (prevE es a)) ∧ Still w w' := by
  obtain ⟨o, h1, _⟩ := h; exact kprev_any h1 a ha
set_option maxRecDepth 100000 in
theorem KOwn.len_ (h : KOwn B N w g es) : Calls Tryz.prog 58 #[.pointer (some ⟨g, 0, none⟩)] w fun e w' => e = .returned (.int .i64 (es.length : Int)) ∧ Still w w' := by
  obtain ⟨o, h1, _⟩ := h; exact klen_any h1
set_option maxRecDepth 100000 in
theorem KOwn.kind_ (h : KOwn B N w g es) : Calls Tryz.prog 44 #[.pointer (some ⟨g, 0, none⟩)] w fun e w' => e = .returned (.int .i64 (kindN es.length : Int)) ∧ Still w w' := by
  obtain ⟨o, h1, _⟩ := h; exact kkind_any h1
set_option maxRecDepth 100000 in
/-- Other ones with the same, all new. -/
theorem KOwn.copy_ (h : KOwn B N w g es) : Calls Tryz.prog 45 #[.pointer (some ⟨g, 0, none⟩)] w fun e w' =>
    ∃ g', e = .returned (.pointer (some ⟨g', 0, none⟩)) ∧ w.heap.size ≤ g' ∧ KOwn w.heap.size (fun _ => False) w' g' es ∧ Below w.heap.size w w' := by
  obtain ⟨o, h1, _⟩ := h
  refine (kcopy_any h1).mono ?_
  rintro e w' ⟨g', o', rfl, k1, k2, k3⟩
  exact ⟨g', rfl, k2 g' (.inl rfl), ⟨o', k1, fun i hi => ⟨k2 i (.inr hi), fun q => q⟩⟩, k3⟩
end
set_option maxRecDepth 100000 in
/-- New kids. -/
theorem KOwn.new (w : World) : Calls Tryz.prog 37 #[] w fun e w' => e = .returned (.pointer (some ⟨w.heap.size, 0, none⟩)) ∧ KOwn w.heap.size (fun _ => False) w' w.heap.size [] ∧ Below w.heap.size w w' := by
  refine (knew_any w).mono ?_
  rintro e w' ⟨o, rfl, h1, h2, h3⟩
  exact ⟨rfl, ⟨o, h1, fun i hi => ⟨Nat.le_of_lt (h2 i hi), fun q => q⟩⟩, h3⟩
end Go.Proofs.YtgelmhldicmmdaaGreat
