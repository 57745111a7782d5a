/-
  Two and three kids side by side, no block in common; what they hold, as sets of bytes.
-/
import Derived.Test.YtgelmhldicmmdaaGreatKdOwn
import Derived.Test.YtgelmhldicmmdaaGreatBdPure
namespace Go.Proofs.YtgelmhldicmmdaaGreat
open Go.RowKit

/-- Lists that rise and have the same members are the same. -/
theorem up_eq {es es' : List Ent} (h : Up es) (h' : Up es') (hm : ∀ e, e ∈ es ↔ e ∈ es') : es = es' := by
  induction es generalizing es' with
  | nil =>
    cases es' with
    | nil => rfl
    | cons b r => have := (hm b).2 List.mem_cons_self; cases this
  | cons a r ih =>
    cases es' with
    | nil => have := (hm a).1 List.mem_cons_self; cases this
    | cons b r' =>
      have hab : a = b := by
        rcases List.mem_cons.1 ((hm a).1 List.mem_cons_self) with q | q
        · exact q
        · rcases List.mem_cons.1 ((hm b).2 List.mem_cons_self) with q' | q'
          · exact q'.symm
          · have := h'.head a q
            have := h.head b q'
            omega
      subst hab
      congr 1
      refine ih h.tail h'.tail (fun e => ⟨fun q => ?_, fun q => ?_⟩)
      · rcases List.mem_cons.1 ((hm e).1 (List.mem_cons_of_mem _ q)) with q' | q'
        · subst q'; have := h.head e q; omega
        · exact q'
      · rcases List.mem_cons.1 ((hm e).2 (List.mem_cons_of_mem _ q)) with q' | q'
        · subst q'; have := h'.head e q; omega
        · exact q'
theorem mem_look {es : List Ent} (h : Up es) (e : Ent) : e ∈ es ↔ hasE es e.1.toNat = true ∧ getE es e.1.toNat = e.2 := by
  constructor
  · intro q
    have := (look_some h (b := e.1.toNat) (x := e.2)).2 ⟨e, q, rfl, rfl⟩
    exact ⟨by unfold hasE; rw [this]; rfl, by unfold getE; rw [this]; rfl⟩
  · rintro ⟨q1, q2⟩
    unfold hasE at q1
    obtain ⟨x, hx⟩ := Option.isSome_iff_exists.1 q1
    unfold getE at q2
    rw [hx] at q2
    obtain ⟨a, ha, hb, hc⟩ := (look_some h).1 hx
    have : a = e := Prod.ext (UInt8.toNat.inj hb) (hc.trans q2)
    exact this ▸ ha
theorem up_same {es es' : List Ent} (h : Up es) (h' : Up es') (hh : ∀ x, hasE es x = hasE es' x) (hg : ∀ x, hasE es x = true → getE es x = getE es' x) : es = es' :=
  up_eq h h' (fun e => by
    rw [mem_look h, mem_look h']
    constructor
    · rintro ⟨q1, q2⟩; exact ⟨(hh _) ▸ q1, (hg _ q1) ▸ q2⟩
    · rintro ⟨q1, q2⟩; have q3 := (hh _).trans q1; exact ⟨q3, (hg _ q3).trans q2⟩)

/-- Two kids' blocks have none in common. -/
def Ap (o : Ho) (g : Nat) (o' : Ho) (g' : Nat) : Prop := ∀ i, o.all g i → ¬ o'.all g' i
section
variable {w w' : World} {g g2 : Nat} {o o' o2 : Ho}
theorem Ap.symm (h : Ap o g o2 g2) : Ap o2 g2 o g := fun i hi hj => h i hj hi
/-- Behind what was done with the first. -/
theorem Ap.step {r2 : Nat} {es2 : List Ent} (h : Ap o g o2 g2) (hn : ∀ i, o'.D i → o.D i ∨ w.heap.size ≤ i) (h2 : Kr w g2 o2 r2 es2) : Ap o' g o2 g2 := fun i hi hj => by
  rcases hi with rfl | hi
  · exact h _ (.inl rfl) hj
  · rcases hn i hi with q | q
    · exact h i (.inr q) hj
    · have := h2.lt hj; omega
end

/-- Two kids; all that is theirs is new since w0. -/
structure Pr (w0 : World) (ga : Nat) (l1 : List Ent) (gb : Nat) (l2 : List Ent) (w : World) : Prop where
  two : ∃ oa ob, Kr w ga oa (kindN l1.length) l1 ∧ Kr w gb ob (kindN l2.length) l2 ∧ Ap oa ga ob gb ∧ (∀ i, oa.all ga i → w0.heap.size ≤ i) ∧ (∀ i, ob.all gb i → w0.heap.size ≤ i)
  below : Below w0.heap.size w0 w
/-- Three kids. -/
structure Tr (w0 : World) (ga : Nat) (l1 : List Ent) (gb : Nat) (l2 : List Ent) (gc : Nat) (l3 : List Ent) (w : World) : Prop where
  three : ∃ oa ob oc, Kr w ga oa (kindN l1.length) l1 ∧ Kr w gb ob (kindN l2.length) l2 ∧ Kr w gc oc (kindN l3.length) l3 ∧ Ap oa ga ob gb ∧ Ap oa ga oc gc ∧ Ap ob gb oc gc ∧
    (∀ i, oa.all ga i → w0.heap.size ≤ i) ∧ (∀ i, ob.all gb i → w0.heap.size ≤ i) ∧ (∀ i, oc.all gc i → w0.heap.size ≤ i)
  below : Below w0.heap.size w0 w
section
variable {w0 w w' : World} {ga gb gc : Nat} {l1 l2 l3 l1' : List Ent}
theorem Pr.swap (h : Pr w0 ga l1 gb l2 w) : Pr w0 gb l2 ga l1 w := by
  obtain ⟨⟨oa, ob, h1, h2, ap, b1, b2⟩, hb⟩ := h
  exact ⟨⟨ob, oa, h2, h1, ap.symm, b2, b1⟩, hb⟩
theorem Tr.swap (h : Tr w0 ga l1 gb l2 gc l3 w) : Tr w0 gb l2 ga l1 gc l3 w := by
  obtain ⟨⟨oa, ob, oc, h1, h2, h3, p1, p2, p3, b1, b2, b3⟩, hb⟩ := h
  exact ⟨⟨ob, oa, oc, h2, h1, h3, p1.symm, p3, p2, b2, b1, b3⟩, hb⟩
theorem Tr.roll (h : Tr w0 ga l1 gb l2 gc l3 w) : Tr w0 gc l3 ga l1 gb l2 w := by
  obtain ⟨⟨oa, ob, oc, h1, h2, h3, p1, p2, p3, b1, b2, b3⟩, hb⟩ := h
  exact ⟨⟨oc, oa, ob, h3, h1, h2, p2.symm, p3.symm, p1, b3, b1, b2⟩, hb⟩
theorem Pr.own (h : Pr w0 ga l1 gb l2 w) : KOwn 0 (fun _ => False) w ga l1 := by
  obtain ⟨⟨oa, ob, h1, _⟩, _⟩ := h
  exact ⟨oa, h1, fun i _ => ⟨Nat.zero_le _, fun q => q⟩⟩
theorem Tr.own (h : Tr w0 ga l1 gb l2 gc l3 w) : KOwn 0 (fun _ => False) w ga l1 := by
  obtain ⟨⟨oa, ob, oc, h1, _⟩, _⟩ := h
  exact ⟨oa, h1, fun i _ => ⟨Nat.zero_le _, fun q => q⟩⟩
theorem Pr.on (h : Pr w0 ga l1 gb l2 w) (hs : Below w.heap.size w w') : Pr w0 ga l1 gb l2 w' := by
  obtain ⟨⟨oa, ob, h1, h2, ap, b1, b2⟩, hb⟩ := h
  exact ⟨⟨oa, ob, h1.below hs, h2.below hs, ap, b1, b2⟩, hb.trans (hs.mono hb.size)⟩
theorem Tr.on (h : Tr w0 ga l1 gb l2 gc l3 w) (hs : Below w.heap.size w w') : Tr w0 ga l1 gb l2 gc l3 w' := by
  obtain ⟨⟨oa, ob, oc, h1, h2, h3, p1, p2, p3, b1, b2, b3⟩, hb⟩ := h
  exact ⟨⟨oa, ob, oc, h1.below hs, h2.below hs, h3.below hs, p1, p2, p3, b1, b2, b3⟩, hb.trans (hs.mono hb.size)⟩
theorem Pr.drewN (h : Pr w0 ga l1 gb l2 w) (n : Nat) : Pr w0 ga l1 gb l2 (w.drewN n) := h.on (Still.below ⟨n, rfl⟩ _)
theorem Tr.drewN (h : Tr w0 ga l1 gb l2 gc l3 w) (n : Nat) : Tr w0 ga l1 gb l2 gc l3 (w.drewN n) := h.on (Still.below ⟨n, rfl⟩ _)
set_option maxRecDepth 100000 in
/-- What is done with the first leaves the others. -/
theorem Pr.op (h : Pr w0 ga l1 gb l2 w) {f : FuncId} {args : Array Value} {n : Int}
    (hc : ∀ o, Kr w ga o (kindN l1.length) l1 → Calls Tryz.prog f args w fun e w' => e = .returned (.int .i64 n) ∧ KdPost w w' ga o l1') :
    Calls Tryz.prog f args w fun e w' => e = .returned (.int .i64 n) ∧ Pr w0 ga l1' gb l2 w' := by
  obtain ⟨⟨oa, ob, h1, h2, ap, b1, b2⟩, hb⟩ := h
  refine (hc oa h1).mono ?_
  rintro e w' ⟨rfl, o', k1, k2, k3⟩
  refine ⟨rfl, ⟨o', ob, k1, h2.kept k3 (fun i hi q => ap i q hi), ap.step k2 h2, fun i hi => ?_, b2⟩, hb.trans (k3.below hb.size (fun i q => b1 i q))⟩
  rcases hi with rfl | hi
  · exact b1 _ (.inl rfl)
  · rcases k2 i hi with q | q
    · exact b1 i (.inr q)
    · have := hb.size; omega
set_option maxRecDepth 100000 in
theorem Tr.op (h : Tr w0 ga l1 gb l2 gc l3 w) {f : FuncId} {args : Array Value} {n : Int}
    (hc : ∀ o, Kr w ga o (kindN l1.length) l1 → Calls Tryz.prog f args w fun e w' => e = .returned (.int .i64 n) ∧ KdPost w w' ga o l1') :
    Calls Tryz.prog f args w fun e w' => e = .returned (.int .i64 n) ∧ Tr w0 ga l1' gb l2 gc l3 w' := by
  obtain ⟨⟨oa, ob, oc, h1, h2, h3, p1, p2, p3, b1, b2, b3⟩, hb⟩ := h
  refine (hc oa h1).mono ?_
  rintro e w' ⟨rfl, o', k1, k2, k3⟩
  refine ⟨rfl, ⟨o', ob, oc, k1, h2.kept k3 (fun i hi q => p1 i q hi), h3.kept k3 (fun i hi q => p2 i q hi), p1.step k2 h2, p2.step k2 h3, p3, fun i hi => ?_, b2, b3⟩, hb.trans (k3.below hb.size (fun i q => b1 i q))⟩
  rcases hi with rfl | hi
  · exact b1 _ (.inl rfl)
  · rcases k2 i hi with q | q
    · exact b1 i (.inr q)
    · have := hb.size; omega
set_option maxRecDepth 100000 in
theorem Pr.set_ (h : Pr w0 ga l1 gb l2 w) (b : UInt8) (x : Th) (z : Int) (hz : z = (b.toNat : Int)) :
    Calls Tryz.prog 40 #[.pointer (some ⟨ga, 0, none⟩), .int .u8 z, .pointer x] w fun e w' => e = .returned (.int .i64 0) ∧ Pr w0 ga (setE l1 b x) gb l2 w' := h.op (fun _ hk => kset_any hk b x z hz)
set_option maxRecDepth 100000 in
theorem Tr.set_ (h : Tr w0 ga l1 gb l2 gc l3 w) (b : UInt8) (x : Th) (z : Int) (hz : z = (b.toNat : Int)) :
    Calls Tryz.prog 40 #[.pointer (some ⟨ga, 0, none⟩), .int .u8 z, .pointer x] w fun e w' => e = .returned (.int .i64 0) ∧ Tr w0 ga (setE l1 b x) gb l2 gc l3 w' := h.op (fun _ hk => kset_any hk b x z hz)
set_option maxRecDepth 100000 in
theorem Tr.drop_ (h : Tr w0 ga l1 gb l2 gc l3 w) (b : UInt8) (z : Int) (hz : z = (b.toNat : Int)) :
    Calls Tryz.prog 69 #[.pointer (some ⟨ga, 0, none⟩), .int .u8 z] w fun e w' => e = .returned (.int .i64 (dropN l1 b)) ∧ Tr w0 ga (dropE l1 b) gb l2 gc l3 w' := h.op (fun _ hk => kdrop_any hk b z hz)
set_option maxRecDepth 100000 in
/-- A copy of the second. -/
theorem Pr.copy_ (h : Pr w0 ga l1 gb l2 w) : Calls Tryz.prog 45 #[.pointer (some ⟨gb, 0, none⟩)] w fun e w' => ∃ gc, e = .returned (.pointer (some ⟨gc, 0, none⟩)) ∧ Tr w0 ga l1 gb l2 gc l2 w' := by
  obtain ⟨⟨oa, ob, h1, h2, ap, b1, b2⟩, hb⟩ := h
  refine (kcopy_any h2).mono ?_
  rintro e w' ⟨gc, oc, rfl, k1, k2, k3⟩
  have hs := hb.size
  exact ⟨gc, rfl, ⟨oa, ob, oc, h1.below k3, h2.below k3, k1, ap, fun i hi hj => by have := h1.lt hi; have := k2 i hj; omega, fun i hi hj => by have := h2.lt hi; have := k2 i hj; omega, b1, b2, fun i hi => by have := k2 i hi; omega⟩, hb.trans (k3.mono hs)⟩
set_option maxRecDepth 100000 in
/-- Two new ones. -/
theorem pr_new (w : World) : Calls Tryz.prog 37 #[] w fun e w1 => ∃ ga, e = .returned (.pointer (some ⟨ga, 0, none⟩)) ∧
    Calls Tryz.prog 37 #[] w1 fun e w2 => ∃ gb, e = .returned (.pointer (some ⟨gb, 0, none⟩)) ∧ Pr w ga [] gb [] w2 := by
  refine (knew_any w).mono ?_
  rintro e w1 ⟨oa, rfl, h1, h2, h3⟩
  refine ⟨_, rfl, (knew_any w1).mono ?_⟩
  rintro e w2 ⟨ob, rfl, k1, k2, k3⟩
  have hs := h3.size
  have hl : ∀ i, oa.all w.heap.size i → i < w1.heap.size := fun i hi => h1.lt hi
  have hk : ∀ i, ob.all w1.heap.size i → w1.heap.size ≤ i := fun i hi => by
    rcases hi with rfl | hi
    · exact Nat.le_refl _
    · exact Nat.le_of_lt (k2 i hi)
  refine ⟨_, rfl, ⟨oa, ob, h1.below k3, k1, fun i hi hj => by have := hl i hi; have := hk i hj; omega, fun i hi => ?_, fun i hi => by have := hk i hi; omega⟩, h3.trans (k3.mono hs)⟩
  rcases hi with rfl | hi
  · exact Nat.le_refl _
  · exact Nat.le_of_lt (h2 i hi)
end
end Go.Proofs.YtgelmhldicmmdaaGreat
