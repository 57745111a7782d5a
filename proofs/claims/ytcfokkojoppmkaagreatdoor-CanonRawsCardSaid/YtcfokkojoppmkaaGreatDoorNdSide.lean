/-
  Nodes side by side, no block of one among the others' own: what is done with one leaves the others; what is made comes behind them.
-/
import Derived.Test.YtcfokkojoppmkaaGreatDoorNdMake
namespace Go.Proofs.YtcfokkojoppmkaaGreatDoor
open Go.RowKit

/-- A node, and where it lies. -/
structure Nk where
  g : Nat
  x : Nd
  b : Be
  A : Option Addr
/-- They lie in blocks from B on, not in N; no block of one's own is another one's, or holds a part. -/
structure Nds (w : World) (B : Nat) (N : Nat → Prop) (ns : List Nk) : Prop where
  nod : ∀ (k : Nat) (n : Nk), ns[k]? = some n → Nod w n.g n.x n.b n.A
  new : ∀ (k : Nat) (n : Nk), ns[k]? = some n → ∀ i, n.b.all n.g i ∨ Pb n.A n.x.part i → B ≤ i ∧ ¬ N i
  apart : ∀ (j k : Nat) (n m : Nk), ns[j]? = some n → ns[k]? = some m → j ≠ k → ∀ i, n.b.all n.g i → ¬ m.b.all m.g i
  far : ∀ (j k : Nat) (n m : Nk), ns[j]? = some n → ns[k]? = some m → ∀ i, Pb n.A n.x.part i → ¬ m.b.all m.g i
/-- What they are, and their blocks. -/
def Ns (w : World) (B : Nat) (N : Nat → Prop) (l : List (Nat × Nd)) : Prop := ∃ ns : List Nk, ns.map (fun n => (n.g, n.x)) = l ∧ Nds w B N ns

section
variable {w w' : World} {B : Nat} {N : Nat → Prop} {ns : List Nk} {l : List (Nat × Nd)} {g : Nat} {x x' : Nd} {rest : List Value}
theorem Nds.kept (h : Nds w B N ns) {D : Nat → Prop} (hk : Kept D w w') (hD : ∀ i, D i → i < B ∨ N i) : Nds w' B N ns :=
  ⟨fun k n hn => (h.nod k n hn).kept hk (fun i hi q => by
      have := h.new k n hn i hi
      rcases hD i q with q | q
      · omega
      · exact this.2 q), h.new, h.apart, h.far⟩
theorem Nds.none_ (w : World) (B : Nat) (N : Nat → Prop) : Nds w B N [] := ⟨fun k n hn => by simp at hn, fun k n hn => by simp at hn, fun j k n m hn => by simp at hn, fun j k n m hn => by simp at hn⟩
theorem getElem?_snoc {α : Type} {l : List α} {a b : α} {k : Nat} (h : (l ++ [a])[k]? = some b) : (k < l.length ∧ l[k]? = some b) ∨ (k = l.length ∧ b = a) := by
  rcases Nat.lt_trichotomy k l.length with hk | hk | hk
  · left; rw [List.getElem?_append_left hk] at h; exact ⟨hk, h⟩
  · right; subst hk; rw [List.getElem?_append_right (Nat.le_refl _)] at h; simp at h; exact ⟨rfl, h.symm⟩
  · rw [List.getElem?_eq_none (by simp; omega)] at h; cases h
/-- One is another one now. -/
theorem Nds.upd (h : Nds w B N ns) {k : Nat} {n : Nk} (hn : ns[k]? = some n) (hB : B ≤ w.heap.size) (hN : ∀ i, N i → i < w.heap.size) (hp : NdPost w w' n.g x' n.b n.A n.x.part) :
    ∃ b' A', Nds w' B N (ns.set k ⟨n.g, x', b', A'⟩) := by
  obtain ⟨b', A', h1, h2, h3, h4⟩ := hp
  have hkl : k < ns.length := (List.getElem?_eq_some_iff.1 hn).1
  have hall : ∀ i, b'.all n.g i → n.b.all n.g i ∨ w.heap.size ≤ i := fun i hi => by
    rcases hi with hi | hi
    · exact .inl (.inl hi)
    · rcases h2 i hi with q | q
      · exact .inl (.inr q)
      · exact .inr q
  have get : ∀ {j : Nat} {m : Nk}, (ns.set k ⟨n.g, x', b', A'⟩)[j]? = some m → (j = k ∧ m = ⟨n.g, x', b', A'⟩) ∨ (j ≠ k ∧ ns[j]? = some m) := fun {j m} hj => by
    rw [List.getElem?_set] at hj
    by_cases e : k = j
    · subst e
      rw [if_pos rfl, if_pos hkl] at hj
      injection hj with hj
      exact .inl ⟨rfl, hj.symm⟩
    · rw [if_neg e] at hj
      exact .inr ⟨fun q => e q.symm, hj⟩
  have old : ∀ {j : Nat} {m : Nk}, ns[j]? = some m → ∀ i, m.b.all m.g i ∨ Pb m.A m.x.part i → i < w.heap.size := fun {j m} hj i hi => by
    rcases hi with hi | hi
    · exact (h.nod j m hj).lt hi
    · exact (h.nod j m hj).ltA hi
  refine ⟨b', A', ⟨fun j m hj => ?_, fun j m hj i hi => ?_, fun i j a c ha hc hij q hq1 hq2 => ?_, fun i j a c ha hc q hq1 hq2 => ?_⟩⟩
  · rcases get hj with ⟨rfl, rfl⟩ | ⟨e, hj'⟩
    · exact h1
    · refine (h.nod j m hj').kept h4 (fun i hi q => ?_)
      rcases hi with hi | hi
      · exact h.apart j _ m n hj' hn e i hi q
      · exact h.far j _ m n hj' hn i hi q
  · rcases get hj with ⟨rfl, rfl⟩ | ⟨e, hj'⟩
    · have : (n.b.all n.g i ∨ Pb n.A n.x.part i) ∨ w.heap.size ≤ i := by
        rcases hi with hi | hi
        · rcases hall i hi with q | q
          · exact .inl (.inl q)
          · exact .inr q
        · rcases h3 i hi with q | q
          · exact .inl (.inr q)
          · exact .inr q
      rcases this with q | q
      · exact h.new _ n hn i q
      · exact ⟨by omega, fun q' => by have := hN i q'; omega⟩
    · exact h.new j m hj' i hi
  · rcases get ha with ⟨rfl, rfl⟩ | ⟨ea, ha'⟩
    · rcases get hc with ⟨rfl, rfl⟩ | ⟨ec, hc'⟩
      · exact hij rfl
      · rcases hall q hq1 with p | p
        · exact h.apart _ j n c hn hc' (fun e => ec e.symm) q p hq2
        · have := old hc' q (.inl hq2); omega
    · rcases get hc with ⟨rfl, rfl⟩ | ⟨ec, hc'⟩
      · rcases hall q hq2 with p | p
        · exact h.apart i _ a n ha' hn ea q hq1 p
        · have := old ha' q (.inl hq1); omega
      · exact h.apart i j a c ha' hc' hij q hq1 hq2
  · rcases get ha with ⟨rfl, rfl⟩ | ⟨ea, ha'⟩
    · rcases get hc with ⟨rfl, rfl⟩ | ⟨ec, hc'⟩
      · have := h1.far q hq1
        rcases hq2 with p | p
        · exact this.1 p
        · exact this.2 p
      · rcases h3 q hq1 with p | p
        · exact h.far _ j n c hn hc' q p hq2
        · have := old hc' q (.inl hq2); omega
    · rcases get hc with ⟨rfl, rfl⟩ | ⟨ec, hc'⟩
      · rcases hall q hq2 with p | p
        · exact h.far i _ a n ha' hn q hq1 p
        · have := old ha' q (.inr hq1); omega
      · exact h.far i j a c ha' hc' q hq1 hq2
/-- One more. -/
theorem Nds.add (h : Nds w B N ns) {m : Option Nat} {A0 : Option Addr} {l0 : List UInt8} (hB : B ≤ w.heap.size) (hN : ∀ i, N i → i < w.heap.size) (hm : ∀ i, m = some i → i < B ∨ N i)
    (h0 : ∀ i, Pb A0 l0 i → ∃ (k : Nat) (n : Nk), ns[k]? = some n ∧ Pb n.A n.x.part i) (hp : NwPost w w' m g x A0 l0) : ∃ b A, Nds w' B N (ns ++ [⟨g, x, b, A⟩]) := by
  obtain ⟨b, A, h1, h2, h3, h4⟩ := hp
  have hk := h.kept h4 hm
  have old : ∀ {j : Nat} {m : Nk}, ns[j]? = some m → ∀ i, m.b.all m.g i ∨ Pb m.A m.x.part i → i < w.heap.size := fun {j m} hj i hi => by
    rcases hi with hi | hi
    · exact (h.nod j m hj).lt hi
    · exact (h.nod j m hj).ltA hi
  refine ⟨b, A, ⟨fun j m hj => ?_, fun j m hj i hi => ?_, fun i j a c ha hc hij q hq1 hq2 => ?_, fun i j a c ha hc q hq1 hq2 => ?_⟩⟩
  · rcases getElem?_snoc hj with ⟨_, hj⟩ | ⟨_, rfl⟩
    · exact hk.nod j m hj
    · exact h1
  · rcases getElem?_snoc hj with ⟨_, hj⟩ | ⟨_, rfl⟩
    · exact h.new j m hj i hi
    · have fr : w.heap.size ≤ i → B ≤ i ∧ ¬ N i := fun q => ⟨by omega, fun q' => by have := hN i q'; omega⟩
      rcases hi with hi | hi
      · exact fr (h2 i hi)
      · rcases h3 i hi with q | q
        · obtain ⟨k, n, hn, hq⟩ := h0 i q
          exact h.new k n hn i (.inr hq)
        · exact fr q
  · rcases getElem?_snoc ha with ⟨_, ha⟩ | ⟨ea, rfl⟩
    · rcases getElem?_snoc hc with ⟨_, hc⟩ | ⟨ec, rfl⟩
      · exact h.apart i j a c ha hc hij q hq1 hq2
      · have := h2 q hq2; have := old ha q (.inl hq1); omega
    · rcases getElem?_snoc hc with ⟨_, hc⟩ | ⟨ec, rfl⟩
      · have := h2 q hq1; have := old hc q (.inl hq2); omega
      · omega
  · rcases getElem?_snoc ha with ⟨_, ha⟩ | ⟨ea, rfl⟩
    · rcases getElem?_snoc hc with ⟨_, hc⟩ | ⟨ec, rfl⟩
      · exact h.far i j a c ha hc q hq1 hq2
      · have := h2 q hq2; have := old ha q (.inr hq1); omega
    · rcases getElem?_snoc hc with ⟨_, hc⟩ | ⟨ec, rfl⟩
      · rcases h3 q hq1 with p | p
        · obtain ⟨k, n, hn, hq⟩ := h0 q p
          exact h.far k j n c hn hc q hq hq2
        · have := old hc q (.inl hq2); omega
      · have := h1.far q hq1
        rcases hq2 with p | p
        · exact this.1 p
        · exact this.2 p

theorem Ns.none_ (w : World) (B : Nat) (N : Nat → Prop) : Ns w B N [] := ⟨[], rfl, Nds.none_ w B N⟩
theorem Ns.kept (h : Ns w B N l) {D : Nat → Prop} (hk : Kept D w w') (hD : ∀ i, D i → i < B ∨ N i) : Ns w' B N l := by
  obtain ⟨ns, h1, h2⟩ := h; exact ⟨ns, h1, h2.kept hk hD⟩
theorem Ns.below (h : Ns w B N l) (hk : Below w.heap.size w w') : Ns w' B N l := h.kept (D := fun _ => False) (Kept.of_below hk) (fun _ q => q.elim)
theorem Ns.still (h : Ns w B N l) (hs : Still w w') : Ns w' B N l := h.below (hs.below _)
theorem Ns.drewN (h : Ns w B N l) (n : Nat) : Ns (w.drewN n) B N l := h.still ⟨n, rfl⟩
/-- More blocks that are none of theirs: new ones. -/
theorem Ns.more (h : Ns w B N l) {N' : Nat → Prop} (hN : ∀ i, N' i → N i ∨ w.heap.size ≤ i) : Ns w B N' l := by
  obtain ⟨ns, h1, h2⟩ := h
  refine ⟨ns, h1, h2.nod, fun k n hn i hi => ⟨(h2.new k n hn i hi).1, fun q => ?_⟩, h2.apart, h2.far⟩
  rcases hN i q with q | q
  · exact (h2.new k n hn i hi).2 q
  · rcases hi with hi | hi
    · have := (h2.nod k n hn).lt hi; omega
    · have := (h2.nod k n hn).ltA hi; omega
theorem Ns.at_ (h : Ns w B N l) {k : Nat} (hk : l[k]? = some (g, x)) : ∃ b A, Nod w g x b A := by
  obtain ⟨ns, rfl, h2⟩ := h
  rw [List.getElem?_map] at hk
  rcases hn : ns[k]? with _ | n
  · rw [hn] at hk; cases hk
  · rw [hn] at hk
    simp only [Option.map_some, Option.some.injEq, Prod.mk.injEq] at hk
    obtain ⟨rfl, rfl⟩ := hk
    exact ⟨_, _, h2.nod k n hn⟩
set_option maxRecDepth 100000 in
/-- What is done with one. -/
theorem Ns.wr (h : Ns w B N l) {k : Nat} (hk : l[k]? = some (g, x)) (hB : B ≤ w.heap.size) (hN : ∀ i, N i → i < w.heap.size) {f : FuncId} {args : Array Value} {n : Int}
    (hc : ∀ b A, Nod w g x b A → Calls Tryz.prog f args w fun e w' => e = .returned (.int .i64 n) ∧ NdPost w w' g x' b A x.part) :
    Calls Tryz.prog f args w fun e w' => e = .returned (.int .i64 n) ∧ Ns w' B N (l.set k (g, x')) ∧ Kept (fun i => B ≤ i ∧ ¬ N i) w w' := by
  obtain ⟨ns, rfl, h2⟩ := h
  rw [List.getElem?_map] at hk
  rcases hn : ns[k]? with _ | q
  · rw [hn] at hk; cases hk
  · rw [hn] at hk
    simp only [Option.map_some, Option.some.injEq, Prod.mk.injEq] at hk
    obtain ⟨rfl, rfl⟩ := hk
    refine (hc q.b q.A (h2.nod k q hn)).mono ?_
    rintro e w' ⟨rfl, hp⟩
    obtain ⟨b', A', hr⟩ := h2.upd hn hB hN hp
    obtain ⟨_, _, _, _, _, hkp⟩ := hp
    exact ⟨rfl, ⟨_, by rw [List.map_set], hr⟩, hkp.mono (fun i hi => h2.new k q hn i (.inl hi))⟩
/-- What makes one. -/
theorem Ns.mk_ (h : Ns w B N l) (hB : B ≤ w.heap.size) (hN : ∀ i, N i → i < w.heap.size) {m : Option Nat} {cnt : Int} (hm : ∀ i, m = some i → i < B ∨ N i) {e : Ending} (hp : MkPost w m rest cnt x none [] e w') :
    ∃ g, e = .returned (.pointer (some ⟨g, 0, none⟩)) ∧ Ns w' B N (l ++ [(g, x)]) ∧ Kept (fun i => m = some i) w w' ∧ ∀ q, m = some q → Lst w' q (.int .i64 (cnt + 1) :: rest) := by
  obtain ⟨ns, rfl, h2⟩ := h
  obtain ⟨g, rfl, hp, hc⟩ := hp
  obtain ⟨b, A, hr⟩ := h2.add hB hN hm (fun i q => absurd rfl q.1) hp
  obtain ⟨_, _, _, _, _, hk⟩ := hp
  exact ⟨g, rfl, ⟨_, by rw [List.map_append]; rfl, hr⟩, hk, hc⟩
set_option maxRecDepth 100000 in
/-- What makes one like another. -/
theorem Ns.like (h : Ns w B N l) {k : Nat} (hk : l[k]? = some (g, x)) (hB : B ≤ w.heap.size) (hN : ∀ i, N i → i < w.heap.size) {m : Option Nat} {cnt : Int} (hm : ∀ i, m = some i → i < B ∨ N i) {f : FuncId} {args : Array Value}
    (hc : ∀ b A, Nod w g x b A → (∀ i, b.all g i ∨ Pb A x.part i → m ≠ some i) → Calls Tryz.prog f args w (MkPost w m rest cnt x' A x.part)) :
    Calls Tryz.prog f args w fun e w' => ∃ g', e = .returned (.pointer (some ⟨g', 0, none⟩)) ∧ Ns w' B N (l ++ [(g', x')]) ∧ Kept (fun i => m = some i) w w' ∧ ∀ q, m = some q → Lst w' q (.int .i64 (cnt + 1) :: rest) := by
  obtain ⟨ns, rfl, h2⟩ := h
  rw [List.getElem?_map] at hk
  rcases hn : ns[k]? with _ | q
  · rw [hn] at hk; cases hk
  · rw [hn] at hk
    simp only [Option.map_some, Option.some.injEq, Prod.mk.injEq] at hk
    obtain ⟨rfl, rfl⟩ := hk
    refine (hc q.b q.A (h2.nod k q hn) (fun i hi e => ?_)).mono ?_
    · have := h2.new k q hn i hi
      rcases hm i e with p | p
      · omega
      · exact this.2 p
    · rintro e w' ⟨g', rfl, hp, hcn⟩
      obtain ⟨b, A, hr⟩ := h2.add hB hN hm (fun i p => ⟨k, q, hn, p⟩) hp
      obtain ⟨_, _, _, _, _, hkp⟩ := hp
      exact ⟨g', rfl, ⟨_, by rw [List.map_append]; rfl, hr⟩, hkp, hcn⟩

set_option maxRecDepth 100000 in
theorem Ns.setval (h : Ns w B N l) {k : Nat} (hk : l[k]? = some (g, x)) (hB : B ≤ w.heap.size) (hN : ∀ i, N i → i < w.heap.size) (o v : Int) :
    Calls Tryz.prog 35 #[.pointer (some ⟨g, 0, none⟩), .int .u64 o, .int .u64 v] w fun e w' => e = .returned (.int .i64 (closN x o)) ∧ Ns w' B N (l.set k (g, nSetVal x o v)) ∧ Kept (fun i => B ≤ i ∧ ¬ N i) w w' :=
  h.wr hk hB hN (fun _ _ hn => nsetval_any hn o v)
set_option maxRecDepth 100000 in
theorem Ns.setkid (h : Ns w B N l) {k j g2 : Nat} {x2 : Nd} (hk : l[k]? = some (g, x)) (hj : l[j]? = some (g2, x2)) (hB : B ≤ w.heap.size) (hN : ∀ i, N i → i < w.heap.size) (o : Int) (c : UInt8) (z : Int) (hz : z = (c.toNat : Int)) :
    Calls Tryz.prog 36 #[.pointer (some ⟨g, 0, none⟩), .int .u64 o, .int .u8 z, .pointer (some ⟨g2, 0, none⟩)] w fun e w' => e = .returned (.int .i64 (setKN x o (some ⟨g2, 0, none⟩))) ∧ Ns w' B N (l.set k (g, nSetKid x o c (some ⟨g2, 0, none⟩))) ∧ Kept (fun i => B ≤ i ∧ ¬ N i) w w' := by
  obtain ⟨b2, A2, h2⟩ := h.at_ hj
  obtain ⟨i, hi, hi0⟩ := isN_pos x2.leaf
  exact h.wr hk hB hN (fun _ _ hn => nsetkid_any hn o c z hz (some ⟨g2, 0, none⟩) (fun a e => ⟨i, hi0, hi ▸ what_any h2⟩))
set_option maxRecDepth 100000 in
theorem Ns.setnone (h : Ns w B N l) {k : Nat} (hk : l[k]? = some (g, x)) (hB : B ≤ w.heap.size) (hN : ∀ i, N i → i < w.heap.size) (o : Int) (c : UInt8) (z : Int) (hz : z = (c.toNat : Int)) :
    Calls Tryz.prog 36 #[.pointer (some ⟨g, 0, none⟩), .int .u64 o, .int .u8 z, .pointer none] w fun e w' => e = .returned (.int .i64 (setKN x o none)) ∧ Ns w' B N (l.set k (g, nSetKid x o c none)) ∧ Kept (fun i => B ≤ i ∧ ¬ N i) w w' :=
  h.wr hk hB hN (fun _ _ hn => nsetkid_any hn o c z hz none (fun a e => by cases e))
set_option maxRecDepth 100000 in
theorem Ns.leaf_ (h : Ns w B N l) (hB : B ≤ w.heap.size) (hN : ∀ i, N i → i < w.heap.size) (m : Option Nat) (cnt o v : Int) {A : Option Addr} (n c B' : Nat) (p : List UInt8) (hm : Mt w m rest cnt) (hmN : ∀ i, m = some i → i < B ∨ N i) (ha : Byt w B' A n p) (hB' : B' ≤ w.heap.size) (hn : n ≤ 140737488355328) (hd : ∀ i, Pb A p i → m ≠ some i) :
    Calls Tryz.prog 34 #[mtr m, .int .u64 o, .slice A n c, .int .u64 v] w fun e w' => ∃ g', e = .returned (.pointer (some ⟨g', 0, none⟩)) ∧ Ns w' B N (l ++ [(g', ⟨true, o, p, v, true, []⟩)]) ∧ Kept (fun i => m = some i) w w' ∧ ∀ q, m = some q → Lst w' q (.int .i64 (cnt + 1) :: rest) :=
  (nleaf_any m cnt o v n c B' p w hm ha hB' hn hd).mono fun _ _ hp => h.mk_ hB hN hmN hp
set_option maxRecDepth 100000 in
theorem Ns.inner_ (h : Ns w B N l) (hB : B ≤ w.heap.size) (hN : ∀ i, N i → i < w.heap.size) (m : Option Nat) (cnt o : Int) {A : Option Addr} (n c B' : Nat) (p : List UInt8) (hm : Mt w m rest cnt) (hmN : ∀ i, m = some i → i < B ∨ N i) (ha : Byt w B' A n p) (hB' : B' ≤ w.heap.size) (hn : n ≤ 140737488355328) (hd : ∀ i, Pb A p i → m ≠ some i) :
    Calls Tryz.prog 33 #[mtr m, .int .u64 o, .slice A n c] w fun e w' => ∃ g', e = .returned (.pointer (some ⟨g', 0, none⟩)) ∧ Ns w' B N (l ++ [(g', ⟨false, o, p, 0, false, []⟩)]) ∧ Kept (fun i => m = some i) w w' ∧ ∀ q, m = some q → Lst w' q (.int .i64 (cnt + 1) :: rest) :=
  (ninner_any m cnt o n c B' p w hm ha hB' hn hd).mono fun _ _ hp => h.mk_ hB hN hmN hp
set_option maxRecDepth 100000 in
theorem Ns.copy_ (h : Ns w B N l) {k : Nat} (hk : l[k]? = some (g, x)) (hB : B ≤ w.heap.size) (hN : ∀ i, N i → i < w.heap.size) (m : Option Nat) (cnt o : Int) (hm : Mt w m rest cnt) (hmN : ∀ i, m = some i → i < B ∨ N i) :
    Calls Tryz.prog 96 #[.pointer (some ⟨g, 0, none⟩), mtr m, .int .u64 o] w fun e w' => ∃ g', e = .returned (.pointer (some ⟨g', 0, none⟩)) ∧ Ns w' B N (l ++ [(g', { x with ow := o })]) ∧ Kept (fun i => m = some i) w w' ∧ ∀ q, m = some q → Lst w' q (.int .i64 (cnt + 1) :: rest) :=
  h.like hk hB hN hmN (fun _ _ hn hd => ncopy_any hn m cnt o hm hd)
set_option maxRecDepth 100000 in
theorem Ns.own_no (h : Ns w B N l) {k : Nat} (hk : l[k]? = some (g, x)) (hB : B ≤ w.heap.size) (hN : ∀ i, N i → i < w.heap.size) (m : Option Nat) (cnt o : Int) (hmi : mineB x.ow o = false) (hm : Mt w m rest cnt) (hmN : ∀ i, m = some i → i < B ∨ N i) :
    Calls Tryz.prog 72 #[.pointer (some ⟨g, 0, none⟩), mtr m, .int .u64 o] w fun e w' => ∃ g', e = .returned (.pointer (some ⟨g', 0, none⟩)) ∧ Ns w' B N (l ++ [(g', { x with ow := o })]) ∧ Kept (fun i => m = some i) w w' ∧ ∀ q, m = some q → Lst w' q (.int .i64 (cnt + 1) :: rest) :=
  h.like hk hB hN hmN (fun _ _ hn hd => nown_no hn m cnt o hmi hm hd)
end
end Go.Proofs.YtcfokkojoppmkaaGreatDoor
