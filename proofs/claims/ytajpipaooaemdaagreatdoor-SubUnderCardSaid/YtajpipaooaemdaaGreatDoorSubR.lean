/-
  Bytes that may be longer afterwards: a row of one's own, or bytes without room behind them.
  bytes.Clone and a node's part, once more: what they hand back has room for itself.
  A map whose keys are pointers to blocks, or nil: what is looked for and is not there, what is stored.
  sub.reached: the node from which all is reached that begins with a prefix; sub.renamed: a copy of a node with another part.
-/
import Derived.Test.YtajpipaooaemdaaGreatDoorNd
import Derived.Test.YtajpipaooaemdaaGreatDoorMem
import Derived.Test.YtajpipaooaemdaaGreatDoorCanon
import Derived.ArgAppend
import Derived.Lib.AppendZerosOnto
import Derived.Maps.OwnOps
import Derived.Maps.OwnSet
import Derived.LaidEql
import Derived.Test.YtajpipaooaemdaaGreatDoorSubQ
import Derived.Test.YtajpipaooaemdaaGreatDoorNin
import Derived.Test.YtajpipaooaemdaaGreatDoorPutG
import Derived.Test.YtajpipaooaemdaaGreatDoorCmp
import Derived.Test.YtajpipaooaemdaaGreatDoorCnLaw
namespace Go.Proofs.YtajpipaooaemdaaGreatDoor
open Go.RowKit

/-- The slice holds l; what is put behind it is written into no block that is there but those in N. -/
structure Wy (w : World) (n₀ : Nat) (N : Nat → Prop) (A : Option Addr) (n c : Nat) (l : List UInt8) : Prop where
  is : (Mine w 0 5 (.slice A n c) n l ∧ ∀ i, (Value.slice A n c).ownBlock = some i → N i) ∨ (c = n ∧ (∃ ad, A = some ad) ∧ Byt w n₀ A n l)
  lo : ∀ i, N i → n₀ ≤ i
theorem Wy.nil (w : World) (n₀ : Nat) : Wy w n₀ (fun _ => False) none 0 0 [] := ⟨.inl ⟨Mine.nil _ _ _, fun i q => by simp [Value.ownBlock] at q⟩, fun _ q => q.elim⟩
section
variable {w w' : World} {n₀ : Nat} {N : Nat → Prop} {A : Option Addr} {n c : Nat} {l : List UInt8}
theorem Wy.len (h : Wy w n₀ N A n c l) : l.length = n := by
  rcases h.is with h | ⟨_, _, h⟩
  · exact Mine.length h.1
  · exact h.1
theorem Wy.room (h : Wy w n₀ N A n c l) : n ≤ c := by
  rcases h.is with h | ⟨rfl, _, _⟩
  · exact Mine.room h.1
  · exact Nat.le_refl _
theorem Wy.byt (h : Wy w n₀ N A n c l) (hn : n₀ ≤ w.heap.size) : Byt w w.heap.size A n l := by
  rcases h.is with h | ⟨_, _, h⟩
  · exact Mine.byt h.1
  · exact h.more hn
theorem Wy.mono {N' : Nat → Prop} (h : Wy w n₀ N A n c l) (hN : ∀ i, N i → N' i) (hl : ∀ i, N' i → n₀ ≤ i) : Wy w n₀ N' A n c l := by
  refine ⟨?_, hl⟩
  rcases h.is with ⟨h1, h2⟩ | h
  · exact .inl ⟨h1, fun i q => hN i (h2 i q)⟩
  · exact .inr h
theorem Wy.kept {D : Nat → Prop} (h : Wy w n₀ N A n c l) (hk : Kept D w w') (hn : n₀ ≤ w.heap.size) (hD : ∀ i, D i → n₀ ≤ i ∧ ¬ N i) : Wy w' n₀ N A n c l := by
  refine ⟨?_, h.lo⟩
  rcases h.is with ⟨h1, h2⟩ | ⟨h1, h2, h3⟩
  · exact .inl ⟨h1.kept hk (fun i q z => (hD i z).2 (h2 i q)), h2⟩
  · exact .inr ⟨h1, h2, h3.below (hk.below hn (fun i q => (hD i q).1))⟩
theorem Wy.of_byt (h : Byt w n₀ A n l) : Wy w n₀ (fun _ => False) A n n l := by
  cases A with
  | none =>
    obtain rfl : n = 0 := by
      rcases Nat.eq_zero_or_pos n with q | q
      · exact q
      · obtain ⟨ad, e, _⟩ := h.2.2 q; cases e
    obtain rfl : l = [] := List.eq_nil_of_length_eq_zero h.1
    exact Wy.nil _ _
  | some ad => exact ⟨.inr ⟨rfl, ⟨ad, rfl⟩, h⟩, fun _ q => q.elim⟩
set_option maxRecDepth 100000 in
/-- append onto it. -/
theorem Wy.append (h : Wy w n₀ N A n c l) (hn : n₀ ≤ w.heap.size) {B : Nat} {A1 : Option Addr} {m c1 : Nat} {l1 : List UInt8} (hb : Byt w B A1 m l1) (hle : n + m ≤ 140737488355328) {k : Nat} (hk : n + m = k) :
    ∃ A2 c2 w2, (Builtin.append_ #[23, 23] 23 #[.slice A n c, .slice A1 m c1]).run Tryz.prog w = .ok (.slice A2 k c2) w2 ∧ Wy w2 n₀ (fun i => N i ∨ w.heap.size ≤ i) A2 k c2 (l ++ l1) ∧ Kept N w w2 := by
  subst hk
  have hlo : ∀ i, (N i ∨ w.heap.size ≤ i) → n₀ ≤ i := fun i q => q.elim (h.lo i) (fun q => Nat.le_trans hn q)
  rcases h.is with ⟨h1, h2⟩ | ⟨hc, ⟨ad, rfl⟩, h⟩
  · obtain ⟨v2, w2, r1, r2, r3, r4⟩ := run_append_byt (P := Tryz.prog) w (t := 23) (ty := 23) Tryz.underlying23 info_u8 0 _ _ _ h1 _ A1 m c1 l1 hb hle (Nat.zero_le _)
    obtain ⟨A2, c2, rfl⟩ := Mine.slice r2
    exact ⟨A2, c2, w2, r1, ⟨.inl ⟨r2, fun i q => by
      rcases r4 with r4 | r4
      · rw [r4] at q; exact .inl (h2 i q)
      · rw [r4] at q; injection q with q; exact .inr (Nat.le_of_eq q)⟩, hlo⟩, ⟨r3.os, r3.tape, r3.output, r3.size, fun i hi hi2 => r3.block i hi (fun q => hi2 (h2 i q.symm))⟩⟩
  · subst hc
    obtain ⟨i0, hi0, hz0, hz1, hz2⟩ := info_parts info_u8
    rcases Nat.eq_zero_or_pos m with h0 | h0
    · subst h0
      obtain rfl : l1 = [] := List.eq_nil_of_length_eq_zero hb.1
      refine ⟨some ad, c, w, ?_, ⟨.inr ⟨by omega, ⟨ad, rfl⟩, by simpa using h⟩, hlo⟩, Kept.refl _ _⟩
      cases A1 <;> simp [Builtin.append_, run_underlying Tryz.underlying23, sizeOf, typeInfo, hi0, Builtin.lenOf, Builtin.firstCells, storeCells, loadCells, loadCellsFrom]
    · obtain ⟨ad1, rfl, _, hc1⟩ := hb.2.2 h0
      have hcells : ∀ {ad : Addr} {l : List UInt8}, (∀ (j : Nat) (u : UInt8), l[j]? = some u → w.cell? (ad.add j) = some (.int .u8 (u.toNat : Int))) → ∀ j u, (l.map bv)[j]? = some u → w.cell? (ad.add j) = some u := by
        intro ad l hl j u hu
        rw [List.getElem?_map] at hu
        rcases hx : l[j]? with _ | b
        · rw [hx] at hu; simp at hu
        · rw [hx] at hu
          simp only [Option.map_some, Option.some.injEq] at hu
          subst hu
          exact hl j b hx
      obtain ⟨v2, w2, r1, r2, r3⟩ := run_append_arg_grows (P := Tryz.prog) w 23 23 5 i0 (.int .u8 0) 1 1 Tryz.underlying23 hi0 hz0 hz1 hz2 rfl (by omega) ad c c (l.map bv) (by have := h.1; simpa using this) (by
          rcases Nat.eq_zero_or_pos c with q | q
          · subst q
            obtain rfl : l = [] := List.eq_nil_of_length_eq_zero h.1
            intro j u hu
            simp at hu
          · obtain ⟨ad', e, _, h4⟩ := h.2.2 q
            injection e with e
            subst e
            exact hcells h4)
        ad1 m c1 (l1.map bv) (by have := hb.1; simpa using this) (hcells hc1) (by omega) (by unfold maxLen; omega) (by omega)
      have hm : Mine w2 w.heap.size 5 v2 (c + m) (l ++ l1) := by unfold Mine; rw [List.map_append]; exact r2
      obtain ⟨A2, c2, rfl⟩ := Mine.slice hm
      refine ⟨A2, c2, w2, r1, ⟨.inl ⟨⟨hm.1, ?_⟩, fun i q => .inr (hm.lt i q).1⟩, hlo⟩, ⟨r3.os, r3.tape, r3.output, r3.size, fun i hi _ => r3.block i hi (fun q => by cases q)⟩⟩
      rcases hm.2 with q | ⟨g, cap, cur, q, h1, h2⟩
      · exact .inl q
      · exact .inr ⟨g, cap, cur, q, Nat.zero_le _, h2⟩
end
end Go.Proofs.YtajpipaooaemdaaGreatDoor

namespace Go.Proofs.YtajpipaooaemdaaGreatDoor
open Go.RowKit

/-- bytes.Clone, once more: what it hands back has room for itself. -/
def ClmPost (w : World) (l : List UInt8) (e : Ending) (w' : World) : Prop :=
  ∃ A c, e = .returned (.slice A l.length c) ∧ Byt w' w'.heap.size A l.length l ∧ l.length ≤ c ∧ (∀ i, Pb A l i → w.heap.size ≤ i) ∧ Below w.heap.size w w'
set_option maxRecDepth 100000 in
set_option maxHeartbeats 400000 in
theorem bclonem_any (A : Option Addr) (n c B : Nat) (l : List UInt8) (w : World) (ha : Byt w B A n l) (hB : B ≤ w.heap.size) (hn : n ≤ 140737488355328) : Calls Tryz.prog 36 #[.slice A n c] w (ClmPost w l) := by
  cases A with
  | none =>
    have h0 : l = [] := by
      cases l with
      | nil => rfl
      | cons u l => obtain ⟨ad, e, _⟩ := ha.2.2 (by have := ha.1; simp at this; omega); cases e
    subst h0
    clear ha
    have hnil := nilb_yes n c
    go_enter Tryz.func36, Tryz.ntmps36
    go_wp2
    go_ret
    exact ⟨none, 0, rfl, Byt.none_, Nat.le_refl _, fun i q => absurd rfl q.1, Below.refl _ _⟩
  | some ad =>
    have HA := Lib.hid ha
    clear ha
    have hnil := nilb_no ad n c
    go_enter Tryz.func36, Tryz.ntmps36
    go_wp2_with (at_builtin
                 refine wpList_append_byt _ rfl (.tmp 5) (.tmp 6) _ rfl Tryz.underlying23 info_u8 w.heap.size (.slice (some ⟨w.heap.size, 0, none⟩) 0 0) 0 [] rfl (Mine.made w _ _ 0 (by unfold maxLen; omega) (Nat.le_refl _)) B (some ad) n c l rfl (HA.out.alloc hB _) (by omega) (by simp) ?_
                 intro v2 w2 hm2 hg2 _
                 rw [Nat.zero_add, List.nil_append] at hm2
                 have HM2 := Lib.hid hm2
                 have C2 := Lib.hid (((Below.refl w.heap.size w).alloc (Nat.le_refl _) _).grown hg2 (by simp) (by simp [Value.ownBlock]))
                 clear hm2 hg2)
    go_wp2
    go_ret
    obtain ⟨A2, c2, rfl⟩ := HM2.out.slice
    have hl := HA.out.1
    subst hl
    refine ⟨A2, c2, rfl, HM2.out.byt, HM2.out.room, fun i hi => ?_, C2.out⟩
    obtain ⟨hne, ad2, rfl, rfl⟩ := hi
    obtain ⟨g2, cap, hv, hlo, _⟩ := World.ownsRow.form HM2.out (List.length_pos_iff.2 hne)
    injection hv with hv
    injection hv with hv
    subst hv
    exact hlo
set_option maxRecDepth 100000 in
theorem npartm_any {w : World} {g : Nat} {x : Nd} {b : Be} {A : Option Addr} (h : Nod w g x b A) : Calls Tryz.prog 28 #[.pointer (some ⟨g, 0, none⟩)] w (ClmPost w x.part) := by
  obtain ⟨c, hb⟩ := h.blk
  have hc : w.cell? ⟨g, 2, none⟩ = some (.slice A x.part.length c) := hb.cell 2
  have H1 := Lib.hid (bclonem_any A x.part.length c w.heap.size x.part w h.byt (Nat.le_refl _) h.short)
  clear hb h
  generalize x.part = l at hc H1 ⊢
  generalize hn : l.length = n at hc H1
  go_enter Tryz.func28, Tryz.ntmps28
  go_wp2_with fail
  (with_reducible refine H1.out.mono ?_)
  rintro e w1 ⟨A1, c1, rfl, h1, h2, h4, h3⟩
  have HE := Lib.hid (show ClmPost w l (.returned (.slice A1 l.length c1)) w1 from ⟨A1, c1, rfl, h1, h2, h4, h3⟩)
  clear h1 h2 h3 h4
  rw [hn] at HE ⊢
  go_wp2
  go_ret
  exact HE.out
end Go.Proofs.YtajpipaooaemdaaGreatDoor

namespace Go.Proofs.YtajpipaooaemdaaGreatDoor
open Go.RowKit Go.ChangeMaps

/-- A pointer to a block, or nil, as a map's key; it is some block of cells. -/
def kpV (q : Option Nat) : Value := .pointer (q.map fun g => ⟨g, 0, none⟩)
def KpOk (w : World) (q : Option Nat) : Prop := ∀ g, q = some g → ∃ cs t, w.heap[g]? = some (.cells cs t (0, 0))
/-- Block b is a map, each of whose keys is one of Q. -/
def Mp (w : World) (b : Nat) (Q : Option Nat → Prop) : Prop :=
  ∃ es clock, w.heap[b]? = some (.map es clock) ∧ ∀ e ∈ es.toList, ∃ q, e.key = kpV q ∧ Q q ∧ KpOk w q
section
variable {P : Program} {w : World} {b : Nat} {Q : Option Nat → Prop} {t k e el : TypeId}
theorem kp_equalIn (d : Nat) (hk : P.underlying k = some (.pointer el)) (hsz : ∃ i, P.info? el = some i ∧ i.size ≠ 0) {p q : Option Nat} (hp : KpOk w p) (hq : KpOk w q) : (Op.equalIn (d + 1) k (kpV p) (kpV q)).run P w = .ok (decide (p = q)) w := by
  obtain ⟨i, hi, hs⟩ := hsz
  cases p with
  | none =>
    cases q <;> simp [kpV, Op.equalIn, run_underlying hk]
  | some a =>
    cases q with
    | none => simp [kpV, Op.equalIn, run_underlying hk]
    | some c =>
      by_cases h : a = c
      · subst h
        simp [kpV, Op.equalIn, run_underlying hk, sizeOf, typeInfo, hi, run_sameAddr_same]
      · obtain ⟨c1, t1, h1⟩ := hp a rfl
        obtain ⟨c2, t2, h2⟩ := hq c rfl
        have hne : (⟨a, 0, none⟩ : Addr) ≠ ⟨c, 0, none⟩ := fun e => h (by injection e)
        simp [kpV, Op.equalIn, run_underlying hk, sizeOf, typeInfo, hi, hs, run_sameAddr_other w hne h1 h2, h]
theorem kp_equal (hk : P.underlying k = some (.pointer el)) (hsz : ∃ i, P.info? el = some i ∧ i.size ≠ 0) {p q : Option Nat} (hp : KpOk w p) (hq : KpOk w q) : (Op.equal k (kpV p) (kpV q)).run P w = .ok (decide (p = q)) w := kp_equalIn 9999 hk hsz hp hq
theorem kp_asking (hk : P.underlying k = some (.pointer el)) (hsz : ∃ i, P.info? el = some i ∧ i.size ≠ 0) {p : Option Nat} (hp : KpOk w p) : ∀ (es : List MapEntry) (i : Nat), (∀ e ∈ es, ∃ q, e.key = kpV q ∧ KpOk w q) →
    ((Instr.findAsking k (kpV p) es i).run P w = .ok none w ∧ ∀ e ∈ es, e.key ≠ kpV p) ∨ ∃ j e0, (Instr.findAsking k (kpV p) es i).run P w = .ok (some (i + j, e0.val)) w ∧ es[j]? = some e0 ∧ e0.key = kpV p
  | [], i, _ => .inl ⟨rfl, fun e he => by cases he⟩
  | e :: es, i, h => by
    obtain ⟨q, e1, hq⟩ := h e (List.mem_cons_self ..)
    have h1 := kp_equal hk hsz hp hq
    by_cases hpq : p = q
    · subst hpq
      refine .inr ⟨0, e, ?_, rfl, e1⟩
      simp [Instr.findAsking, e1, h1, Result.andThen]
    · rw [decide_eq_false hpq] at h1
      rcases kp_asking hk hsz hp es (i + 1) (fun e he => h e (List.mem_cons_of_mem _ he)) with ⟨h2, h3⟩ | ⟨j, e0, h2, h3, h4⟩
      · refine .inl ⟨by simp [Instr.findAsking, e1, h1, Result.andThen, h2], fun e' he => ?_⟩
        rcases List.mem_cons.1 he with rfl | he
        · rw [e1]
          intro h5
          apply hpq
          unfold kpV at h5
          cases p <;> cases q <;> simp at h5 <;> simp [h5]
        · exact h3 e' he
      · refine .inr ⟨j + 1, e0, ?_, h3, h4⟩
        simp [Instr.findAsking, e1, h1, Result.andThen, h2]
        omega
theorem kp_now (p : Option Nat) (es : List MapEntry) (h : ∀ e ∈ es, ∃ q, e.key = kpV q ∧ KpOk w q) : Instr.findNow (.pointer el) (kpV p) es 0 = if es = [] then some none else none := by
  cases es with
  | nil => rfl
  | cons e es =>
    obtain ⟨q, e1, _⟩ := h e (List.mem_cons_self ..)
    unfold Instr.findNow
    rw [e1]
    rfl
theorem kp_find (hk : P.underlying k = some (.pointer el)) (hsz : ∃ i, P.info? el = some i ∧ i.size ≠ 0) {p : Option Nat} (hp : KpOk w p) (es : List MapEntry) (h : ∀ e ∈ es, ∃ q, e.key = kpV q ∧ KpOk w q) :
    ((Instr.findKey k (kpV p) es).run P w = .ok none w ∧ ∀ e ∈ es, e.key ≠ kpV p) ∨ ∃ j e0, (Instr.findKey k (kpV p) es).run P w = .ok (some (j, e0.val)) w ∧ es[j]? = some e0 ∧ e0.key = kpV p := by
  have h1 := kp_now (el := el) p es h
  by_cases he : es = []
  · subst he
    exact .inl ⟨by simp [Instr.findKey, run_underlying hk, Instr.findNow], fun e he => by cases he⟩
  · rw [if_neg he] at h1
    have h2 := kp_asking hk hsz hp es 0 h
    simpa [Instr.findKey, run_underlying hk, h1] using h2
theorem kp_checkIn (d : Nat) (hk : P.underlying k = some (.pointer el)) (b : Bool) (p : Option Nat) : (Instr.checkKey b (d + 1) k (kpV p)).run P w = .ok () w := by
  simp [Instr.checkKey, run_underlying hk, kpV]
theorem kp_check (hk : P.underlying k = some (.pointer el)) (b : Bool) (p : Option Nat) : (Instr.checkKey b 10000 k (kpV p)).run P w = .ok () w := kp_checkIn 9999 hk b p
theorem kp_bits (d : Nat) (p : Option Nat) : Instr.sameBits (d + 1) (kpV p) (kpV p) = true := by
  simp [Instr.sameBits, kpV]
theorem kp_stays (p : Option Nat) : (Instr.keyThatStays (kpV p) (kpV p)).run P w = .ok (kpV p) w := by
  have : Instr.sameBits 10000 (kpV p) (kpV p) = true := kp_bits 9999 p
  unfold Instr.keyThatStays
  rw [if_pos this]
  rfl
theorem Mp.made (w : World) : Mp (w.alloc (.map #[] 0)) w.heap.size (fun _ => False) := ⟨#[], 0, (MapKept.heap_alloc w _).1, by simp⟩
theorem Mp.lt (h : Mp w b Q) : b < w.heap.size := by
  obtain ⟨es, clock, hb, _⟩ := h
  exact (Array.getElem?_eq_some_iff.1 hb).1
theorem Mp.below {w' : World} (h : Mp w b Q) (hb : Below w.heap.size w w') : Mp w' b Q := by
  obtain ⟨es, clock, h1, h2⟩ := h
  refine ⟨es, clock, (hb.block b (Array.getElem?_eq_some_iff.1 h1).1).trans h1, fun e he => ?_⟩
  obtain ⟨q, e1, e2, e3⟩ := h2 e he
  refine ⟨q, e1, e2, fun g hg => ?_⟩
  obtain ⟨cs, t, e4⟩ := e3 g hg
  exact ⟨cs, t, (hb.block g (Array.getElem?_eq_some_iff.1 e4).1).trans e4⟩
theorem Mp.look_no (h : Mp w b Q) (ht : P.underlying t = some (.map k e)) (hk : P.underlying k = some (.pointer el)) (hsz : ∃ i, P.info? el = some i ∧ i.size ≠ 0) {z : Value} (hz : (zeroValue e).run P w = .ok z w) {p : Option Nat} (hp : KpOk w p) (hn : ¬ Q p) :
    (Instr.lookup t (.map (some b)) (kpV p) true).run P w = .ok (.tuple #[z, .bool false]) w := by
  obtain ⟨es, clock, hb, hes⟩ := h
  rcases kp_find hk hsz hp es.toList (fun x hx => by obtain ⟨q, a1, _, a2⟩ := hes x hx; exact ⟨q, a1, a2⟩) with ⟨h1, _⟩ | ⟨j, e0, _, h2, h3⟩
  · simp [Instr.lookup, run_underlying ht, MapKept.run_getObj_map hb, kp_check hk, h1, hz, Result.andThen]
  · obtain ⟨q, a1, a2, _⟩ := hes e0 (List.mem_of_getElem? h2)
    exfalso
    rw [h3] at a1
    have : p = q := by
      unfold kpV at a1
      cases p <;> cases q <;> simp at a1 <;> simp [a1]
    exact hn (this ▸ a2)
theorem Mp.update (h : Mp w b Q) (ht : P.underlying t = some (.map k e)) (hk : P.underlying k = some (.pointer el)) (hsz : ∃ i, P.info? el = some i ∧ i.size ≠ 0) {p : Option Nat} (hp : KpOk w p) (v : Value) :
    ∃ w', (Instr.mapUpdate t (.map (some b)) (kpV p) v).run P w = .ok () w' ∧ Mp w' b (fun q => Q q ∨ q = p) ∧ w.grownBy w' (some b) := by
  obtain ⟨es, clock, hb, hes⟩ := h
  have hkp : ∀ {o : Obj} {q : Option Nat}, KpOk w q → KpOk (setBlock w b o) q := fun {o q} hq g hg => by
    obtain ⟨cs, t, hh⟩ := hq g hg
    refine ⟨cs, t, ?_⟩
    rw [heap_setBlock_other hb]
    · exact hh
    · intro e; subst e; rw [hb] at hh; cases hh
  rcases kp_find hk hsz hp es.toList (fun x hx => by obtain ⟨q, a1, _, a2⟩ := hes x hx; exact ⟨q, a1, a2⟩) with ⟨h1, _⟩ | ⟨j, e0, h1, h2, h3⟩
  · refine ⟨setBlock w b (.map (es.push ⟨kpV p, v, clock⟩) (clock + 1)), ?_, ⟨_, _, heap_setBlock_same hb _, fun x hx => ?_⟩, ⟨rfl, rfl, rfl, by simp [setBlock], fun i _ hi => heap_setBlock_other hb _ (fun e => hi (by rw [e]))⟩⟩
    · simp [Instr.mapUpdate, run_underlying ht, MapKept.run_getObj_map hb, kp_check hk, h1, MapKept.run_setObj_map _ hb, Result.andThen, setBlock]
    · simp only [Array.toList_push, List.mem_append, List.mem_singleton] at hx
      rcases hx with hx | rfl
      · obtain ⟨q, a1, a2, a3⟩ := hes x hx
        exact ⟨q, a1, .inl a2, hkp a3⟩
      · exact ⟨p, rfl, .inr rfl, hkp hp⟩
  · have hj : es[j]? = some e0 := by simpa using h2
    refine ⟨setBlock w b (.map (es.modify j fun e => { e with key := kpV p, val := v }) clock), ?_, ⟨_, _, heap_setBlock_same hb _, fun x hx => ?_⟩, ⟨rfl, rfl, rfl, by simp [setBlock], fun i _ hi => heap_setBlock_other hb _ (fun e => hi (by rw [e]))⟩⟩
    · simp [Instr.mapUpdate, run_underlying ht, MapKept.run_getObj_map hb, kp_check hk, h1, MapKept.run_setObj_map _ hb, Result.andThen, setBlock, hj, h3, kp_stays]
    · rw [Array.toList_modify] at hx
      obtain ⟨i, hi⟩ := List.mem_iff_getElem?.1 hx
      rw [List.getElem?_modify] at hi
      by_cases hij : j = i
      · subst hij
        simp [hj] at hi
        subst hi
        exact ⟨p, rfl, .inr rfl, hkp hp⟩
      · simp [hij] at hi
        obtain ⟨q, a1, a2, a3⟩ := hes x (by simpa using Array.mem_of_getElem? hi)
        exact ⟨q, a1, .inl a2, hkp a3⟩
theorem wpList_mapUpdate_mp {ops : Array Oper} {rest : List Oper} {o : Oper} {a : Act} {F : Exit → Act → World → Prop}
    (hg : o.guard = none) (m x v : Operand) (hop : o.op = Op.mapUpdate t m x v) (ht : P.underlying t = some (.map k e)) (hk : P.underlying k = some (.pointer el)) (hsz : ∃ i, P.info? el = some i ∧ i.size ≠ 0)
    (hm : a.eval m = .map (some b)) (h : Mp w b Q) (p : Option Nat) (hx : a.eval x = kpV p) (hp : KpOk w p) (val : Value) (hv : a.eval v = val)
    (hK : ∀ w', Mp w' b (fun q => Q q ∨ q = p) → w.grownBy w' (some b) → wpList P ops F rest (a.put o.dst undef) w') :
    wpList P ops F (o :: rest) a w := by
  refine wpList_plain hg fun K' hK' => ?_
  obtain ⟨w', hrun, r1, r2⟩ := h.update (P := P) ht hk hsz hp val
  unfold Oper.wp
  simp [execOp, hop, hm, hx, hv, hrun, Result.andThen]
  exact hK' _ _ (hK w' r1 r2)
theorem wpList_lookup_no {ops : Array Oper} {rest : List Oper} {o : Oper} {a : Act} {F : Exit → Act → World → Prop}
    (hg : o.guard = none) (m x : Operand) (hop : o.op = Op.lookup t m x true) (ht : P.underlying t = some (.map k e)) (hk : P.underlying k = some (.pointer el)) (hsz : ∃ i, P.info? el = some i ∧ i.size ≠ 0)
    {z : Value} (hz : (zeroValue e).run P w = .ok z w) (hm : a.eval m = .map (some b)) (h : Mp w b Q) (p : Option Nat) (hx : a.eval x = kpV p) (hp : KpOk w p) (hn : ¬ Q p)
    (hK : wpList P ops F rest (a.put o.dst (.tuple #[z, .bool false])) w) :
    wpList P ops F (o :: rest) a w := by
  refine wpList_plain hg fun K' hK' => ?_
  have hrun := h.look_no (P := P) ht hk hsz hz hp hn
  unfold Oper.wp
  simp [execOp, hop, hm, hx, hrun, Result.andThen]
  exact hK' _ _ hK
end
end Go.Proofs.YtajpipaooaemdaaGreatDoor

namespace Go.Proofs.YtajpipaooaemdaaGreatDoor
open Go.RowKit

/-- A node with another part. -/
def partT (l : List UInt8) (T : Nn × Fo) : Nn × Fo := (⟨T.1.leaf, T.1.ow, l, T.1.val, T.1.has⟩, T.2)
theorem lcp_sym : ∀ (a b : List UInt8), lcp a b = lcp b a
  | [], [] => rfl
  | [], _ :: _ => rfl
  | _ :: _, [] => rfl
  | u :: a, v :: b => by
    simp only [lcp]
    by_cases e : u = v
    · subst e; simp [lcp_sym a b]
    · rw [if_neg e, if_neg (Ne.symm e)]
section
variable {x : Nn} {k : Fo} {q : List UInt8}
theorem tsub_beg (h : begB x.part q = true) : tsub x k q = some (partT (x.part.drop q.length) (x, k)) :=
  tsub_here (by rw [lcp_sym]; exact of_decide_eq_true h)
theorem tsub_off (h1 : begB x.part q = false) (h2 : begB q x.part = false) : tsub x k q = none := by
  have a := of_decide_eq_false h1
  have b := of_decide_eq_false h2
  rw [lcp_sym] at a
  have c := lcp_le_left q x.part
  have d := lcp_le_right q x.part
  exact tsub_no (by omega) (by omega)
theorem tsub_next {c : UInt8} {qr : List UInt8} (h2 : begB q x.part = true) (hd : q.drop x.part.length = c :: qr) : tsub x k q = osub (k.kid c) qr :=
  tsub_on (of_decide_eq_true h2) hd
theorem beg_shorter (h1 : begB x.part q = false) (h2 : begB q x.part = true) : x.part.length < q.length := by
  have a := of_decide_eq_false h1
  have b : lcp q x.part = x.part.length := of_decide_eq_true h2
  rw [lcp_sym] at a
  have c := lcp_le_left q x.part
  omega
end
/-- A good tree has a pair. -/
theorem tlist_some {x : Nn} {k : Fo} (h : tgood x k) : ∃ p, p ∈ tlist x k [] := by
  have h1 := (tgood_points h [] 0).1
  cases hl : tlist x k [] with
  | nil => rw [hl, List.length_nil] at h1; omega
  | cons p l => exact ⟨p, List.mem_cons_self ..⟩
/-- Where all of a tree's keys begin with some bytes, its top node's part does. -/
theorem top_all {o : Int} {x : Nn} {k : Fo} {q : List UInt8} (hk : k.wf o) (hg : tgood x k) (h : ∀ p ∈ tlist x k [], q <+: p.1) : q <+: x.part := by
  cases hh : x.has with
  | true => exact h (x.part, x.val) (mem_tlist.2 (.inl ⟨hh, rfl⟩))
  | false =>
    have h1 := hg.1
    unfold okN at h1
    rw [hh] at h1
    cases hl : x.leaf with
    | true => rw [hl] at h1; simp at h1
    | false =>
      rw [hl] at h1
      match k, h1, hk, hg, h with
      | .nil, h1, _, _, _ => simp [Fo.len] at h1
      | .cons b1 y1 k1 .nil, h1, _, _, _ => simp [Fo.len] at h1
      | .cons b1 y1 k1 (.cons b2 y2 k2 r), _, ⟨w1, _, _, _⟩, hg, h =>
        obtain ⟨p1, hp1⟩ := tlist_some (x := y1) (k := k1) ⟨hg.2.1, hg.2.2.1⟩
        obtain ⟨p2, hp2⟩ := tlist_some (x := y2) (k := k2) ⟨hg.2.2.2.1, hg.2.2.2.2.1⟩
        have hlt : b1.toNat < b2.toNat := w1
        have i1 := h (x.part ++ b1 :: p1.1, p1.2) (mem_tlist.2 (.inr ⟨(b1 :: p1.1, p1.2), mem_fo.2 (.inl ⟨p1, hp1, rfl⟩), rfl⟩))
        have i2 := h (x.part ++ b2 :: p2.1, p2.2) (mem_tlist.2 (.inr ⟨(b2 :: p2.1, p2.2), mem_fo.2 (.inr (mem_fo.2 (.inl ⟨p2, hp2, rfl⟩))), rfl⟩))
        dsimp only at i1 i2
        rcases Nat.lt_or_ge x.part.length q.length with hq | hq
        · exfalso
          have j1 : x.part ++ [b1] <+: q := List.prefix_of_prefix_length_le ⟨p1.1, by simp⟩ i1 (by simp; omega)
          have j2 : x.part ++ [b2] <+: q := List.prefix_of_prefix_length_le ⟨p2.1, by simp⟩ i2 (by simp; omega)
          have j3 := (List.prefix_of_prefix_length_le j1 j2 (by simp)).eq_of_length (by simp)
          have j4 := List.append_cancel_left j3
          injection j4 with j4
          subst j4
          omega
        · exact List.prefix_of_prefix_length_le i1 (List.prefix_append _ _) hq
/-- The top node's part begins with some bytes. -/
def topB (t : Option (Nn × Fo)) (q : List UInt8) : Prop := ∃ T, t = some T ∧ begB T.1.part q = true
theorem topB_of {ps : List PV} {t : Option (Nn × Fo)} {q : List UInt8} (h : OCan ps t) (hn : t ≠ none) (ha : ∀ p ∈ ps, q <+: p.key) : topB t q := by
  cases t with
  | none => exact absurd rfl hn
  | some T =>
    refine ⟨T, rfl, begB_iff.2 ?_⟩
    obtain ⟨_, h2, h3, h4⟩ := Can.one 1 h
    exact top_all (x := T.1.by 1) h2 h3 fun p hp => by
      rw [h4] at hp
      obtain ⟨z, hz, rfl⟩ := List.mem_map.1 hp
      exact ha z hz

theorem OTre.belowS {n₀ : Nat} {S : Nat → Prop} {w w' : World} {t : Option (Nn × Fo)} {p : Option Addr} (h : OTre w S t p) (hS : ∀ i, S i → i < n₀) (hb : Below n₀ w w') : OTre w' S t p := by
  cases t with
  | none => exact h
  | some xk =>
    obtain ⟨g, e, h1⟩ := h
    exact ⟨g, e, h1.below hS hb⟩

/-- Where the loop stands. -/
def RcS (n₀ : Nat) (S : Nat → Prop) (w : World) (t : Option (Nn × Fo)) (p : Option Addr) (key : List UInt8) (q : Option Addr) (a : Nat) (V : World) : Prop :=
  ∃ t', osub t key = osub t' (key.drop a) ∧ a ≤ key.length ∧ OTre V S t' q ∧ (a = 0 → t' = t ∧ q = p) ∧ (a ≠ 0 → ¬ topB t key) ∧ Below n₀ w V
/-- What is reached. -/
def RcPost (n₀ : Nat) (S : Nat → Prop) (w : World) (t : Option (Nn × Fo)) (p : Option Addr) (key : List UInt8) (e : Ending) (w' : World) : Prop :=
  ∃ (q : Option Addr) (a : Nat), e = .returned (.tuple #[.pointer q, .int .i64 (a : Int)]) ∧ Below n₀ w w' ∧ (topB t key → a = 0) ∧
    ((q = none ∧ a = 0 ∧ osub t key = none) ∨ ∃ x k g, q = some ⟨g, 0, none⟩ ∧ Tre w' S x k g ∧ a ≤ key.length ∧ begB x.part (key.drop a) = true ∧ osub t key = some (partT (x.part.drop (key.length - a)) (x, k)) ∧ (a = 0 → t = some (x, k) ∧ q = p))
set_option maxRecDepth 100000 in
set_option maxHeartbeats 4000000 in
theorem reached_any (n₀ : Nat) (S : Nat → Prop) (t : Option (Nn × Fo)) (p A : Option Addr) (n c : Nat) (key : List UInt8) (w : World)
    (hn₀ : n₀ ≤ w.heap.size) (hS : ∀ i, S i → i < n₀) (ht : OTre w S t p) (hk : Byt w n₀ A n key) (hnc : n ≤ c) (hn : n ≤ 1000000) :
    Calls Tryz.prog 25 #[.pointer p, .slice A n c] w (RcPost n₀ S w t p key) := by
  have HL := Lib.hid (show key.length = n from hk.1)
  have HMX := Lib.hid hn
  have HN0 := Lib.hid hn₀
  have HB := Lib.hid (fun V (hV : Below n₀ w V) => hk.below hV)
  have HC := Lib.hid hnc
  have HSS := Lib.hid hS
  have H0 := Lib.hid (show RcS n₀ S w t p key p 0 w from ⟨t, by simp, Nat.zero_le _, ht, fun _ => ⟨rfl, rfl⟩, fun q => absurd rfl q, Below.refl _ _⟩)
  clear hk hnc ht hn hn₀ hS
  go_enter Tryz.func25, Tryz.ntmps25
  go_wp2_with fail
  go_loopw [0, 6] (fun v0 v6 wr => ∃ (q : Option Addr) (a : Nat), v0 = .pointer q ∧ v6 = .int .i64 (a : Int) ∧ a ≤ n ∧ Hid (RcS n₀ S w t p key q a wr)) (fun _ v6 _ => n - (intOf v6).toNat)
  case atStart => exact ⟨p, 0, rfl, rfl, Nat.zero_le _, H0⟩
  case round =>
    obtain ⟨q, a, rfl, rfl, han, HS⟩ := hrel
    clear H0
    obtain ⟨t', h1, h3, h4, h5, h6, h7⟩ := HS.out
    have HW := Lib.hid h7
    cases t' with
    | none =>
      obtain rfl : q = none := h4
      have HE := Lib.hid (show topB t key → (0 : Nat) = 0 from fun _ => rfl)
      have HQ := Lib.hid (show osub t key = none from h1)
      have HK := Lib.hid (nkind_nil wr)
      clear h1 h3 h5 h6 h7 HS
      go_wp2_with fail
      (with_reducible refine HK.out.mono ?_)
      rintro e w1 ⟨rfl, rfl⟩
      go_wp2_with fail
      go_ret2
      exact ⟨none, 0, rfl, HW.out, fun _ => rfl, .inl ⟨rfl, rfl, HQ.out⟩⟩
    | some xk =>
      obtain ⟨x, k⟩ := xk
      obtain ⟨g, rfl, T⟩ := h4
      obtain ⟨be, A', ek, hN, hI⟩ := T.nod
      have HTR := Lib.hid T
      have H1 := Lib.hid (show osub t key = tsub x k (key.drop a) from h1)
      have H5 := Lib.hid h5
      have H6 := Lib.hid h6
      have hkd := kindD_ne (x.nd ek)
      have HK := nkind_any hN
      obtain ⟨kd, hkd2⟩ : ∃ z, kindD (x.nd ek) = z := ⟨_, rfl⟩
      rw [hkd2] at HK hkd
      have hkne : (kd != 0) = true := by simpa using hkd
      have HK := Lib.hid HK
      clear h1 h3 h5 h6 h7 hkd hkd2 T hN hI HS
      go_wp2_with fail
      (with_reducible refine HK.out.mono ?_)
      rintro e w1 ⟨rfl, s1⟩
      have b1 : Below wr.heap.size wr w1 := s1.below _
      have szr : n₀ ≤ wr.heap.size := Nat.le_trans HN0.out HW.out.size
      have T1 := HTR.out.below HSS.out (Below.mono b1 szr)
      obtain ⟨be1, A1, ek1, hN1, hI1⟩ := T1.nod
      have W1 := Lib.hid (HW.out.trans (b1.mono szr))
      have TR1 := Lib.hid T1
      have HPT := Lib.hid (npart_any hN1)
      clear b1 s1 szr T1 hN1 hI1 HK
      go_wp2_with fail
      (with_reducible refine HPT.out.mono ?_)
      rintro e w2 ⟨A2, c2, rfl, y2, _, b2⟩
      have szr : n₀ ≤ w1.heap.size := Nat.le_trans HN0.out W1.out.size
      have W2 := Lib.hid (W1.out.trans (b2.mono szr))
      have T2 := Lib.hid (TR1.out.below HSS.out (b2.mono szr))
      have Y2 := Lib.hid y2
      have hsl := fun V => slc_from (P := Tryz.prog) Tryz.underlying23 size_u8 A n c a han V
      have HCU := Lib.hid (fun V (hV : Below n₀ w V) => show Byt V n₀ (cutA A a c 1) (n - a) (key.drop a) from by
        have := (HB.out V hV).cut_ a n han (Nat.le_refl _) HC.out
        rwa [List.take_of_length_le (by rw [HL.out]; exact Nat.le_refl _)] at this)
      have HBG := begins_any A2 (cutA A a c 1) x.part.length (n - a) c2 (c - a) w2.heap.size x.part (key.drop a) w2 y2 ((HCU.out w2 W2.out).more (Nat.le_trans HN0.out W2.out.size))
      obtain ⟨bb, hbb⟩ : ∃ b, begB x.part (key.drop a) = b := ⟨_, rfl⟩
      rw [hbb] at HBG
      have HBB := Lib.hid hbb
      have HBG := Lib.hid HBG
      obtain ⟨m, hm⟩ : ∃ m, x.part.length = m := ⟨_, rfl⟩
      have HM := Lib.hid hm
      rw [hm] at HBG ⊢
      clear b2 szr y2 hbb HPT TR1 hm hkne
      go_wp2_with fail
      (with_reducible refine HBG.out.mono ?_)
      rintro e w3 ⟨rfl, s3⟩
      have b3 : Below w2.heap.size w2 w3 := s3.below _
      have szr : n₀ ≤ w2.heap.size := Nat.le_trans HN0.out W2.out.size
      have W3 := Lib.hid (W2.out.trans (b3.mono szr))
      have T3 := Lib.hid (T2.out.below HSS.out (b3.mono szr))
      have Y3 := Lib.hid ((Y2.out.below b3).more b3.size)
      clear b3 s3 szr HBG T2
      cases bb with
      | true =>
        go_wp2_with fail
        go_ret2
        refine ⟨_, a, rfl, W3.out, fun hq => ?_, .inr ⟨x, k, g, rfl, T3.out, by have := HL.out; omega, HBB.out, ?_, fun h0 => ⟨(H5.out h0).1.symm, (H5.out h0).2⟩⟩⟩
        · rcases Nat.eq_zero_or_pos a with h0 | h0
          · exact h0
          · exact absurd hq (H6.out (by omega))
        · rw [H1.out, tsub_beg HBB.out, List.length_drop]
      | false =>
        have hnt : ¬ topB t key := fun hq => by
          rcases Nat.eq_zero_or_pos a with h0 | h0
          · obtain ⟨T, e1, e2⟩ := hq
            have e3 := (H5.out h0).1
            rw [e1] at e3
            injection e3 with e3
            subst e3
            have e4 := HBB.out
            rw [h0, List.drop_zero] at e4
            rw [e4] at e2
            cases e2
          · exact H6.out (by omega) hq
        have HNT := Lib.hid hnt
        have HBG := begins_any (cutA A a c 1) A2 (n - a) x.part.length (c - a) c2 w3.heap.size (key.drop a) x.part w3 ((HCU.out w3 W3.out).more (Nat.le_trans HN0.out W3.out.size)) Y3.out
        obtain ⟨bb, hbb⟩ : ∃ b, begB (key.drop a) x.part = b := ⟨_, rfl⟩
        rw [hbb, HM.out] at HBG
        have HB2 := Lib.hid hbb
        have HBG := Lib.hid HBG
        clear hbb hnt
        go_wp2_with fail
        (with_reducible refine HBG.out.mono ?_)
        rintro e w4 ⟨rfl, s4⟩
        have b4 : Below w3.heap.size w3 w4 := s4.below _
        have szr : n₀ ≤ w3.heap.size := Nat.le_trans HN0.out W3.out.size
        have W4 := Lib.hid (W3.out.trans (b4.mono szr))
        have T4 := Lib.hid (T3.out.below HSS.out (b4.mono szr))
        clear b4 s4 szr HBG T3 hsl
        cases bb with
        | false =>
          have HQ := Lib.hid (show osub t key = none from by rw [H1.out]; exact tsub_off HBB.out HB2.out)
          go_wp2_with fail
          go_ret2
          exact ⟨none, 0, rfl, W4.out, fun _ => rfl, .inl ⟨rfl, rfl, HQ.out⟩⟩
        | true =>
          have hmn : a + m < n := by
            have h1 := beg_shorter HBB.out HB2.out
            have h4 := HL.out
            have h5 := HM.out
            rw [List.length_drop] at h1
            omega
          obtain ⟨b, hb⟩ : ∃ b, a + m = b := ⟨_, rfl⟩
          obtain ⟨m1, hm1⟩ : ∃ z, m + 1 = z := ⟨_, rfl⟩
          obtain ⟨b1, hb1⟩ : ∃ z, b + 1 = z := ⟨_, rfl⟩
          have hmx := HMX.out
          have ew1 : IntKind.i64.wrap ((m : Int) + 1) = (m1 : Int) := by rw [IntKind.wrap_i64]; omega
          have ew2 : IntKind.i64.wrap ((a : Int) + (m1 : Int)) = (b1 : Int) := by rw [IntKind.wrap_i64]; omega
          have ew3 : IntKind.i64.wrap ((b1 : Int) - 1) = (b : Int) := by rw [IntKind.wrap_i64]; omega
          have hbl : b < n := by omega
          obtain ⟨ad, u, rfl, _, e1, c1⟩ := (HB.out w4 W4.out).at_ hbl
          have hdr : (key.drop a).drop x.part.length = u :: key.drop b1 := by
            have h5 := HM.out
            rw [List.drop_drop, show a + x.part.length = b by omega, ← hb1]
            obtain ⟨hq, e2⟩ := List.getElem?_eq_some_iff.1 e1
            rw [List.drop_eq_getElem_cons hq, e2]
          obtain ⟨be5, A5, ek5, hN5, hI5⟩ := T4.out.nod
          have HKD := Lib.hid (nkid_any hN5 u (u.toNat : Int) rfl)
          have hup := hN5.up
          have OT := Lib.hid (hI5.kid_ u hup)
          have HGO := Lib.hid (show osub t key = osub (k.kid u) (key.drop b1) from by rw [H1.out]; exact tsub_next HB2.out hdr)
          have HBE := Lib.hid (show b1 ≤ n ∧ a < b1 ∧ b1 ≠ 0 from by omega)
          clear hdr e1 hup hN5 hI5 hmx hb hm1 hb1 hmn
          go_wp2_with fail
          (with_reducible refine HKD.out.mono ?_)
          rintro e w6 ⟨rfl, s6⟩
          have b6 : Below w4.heap.size w4 w6 := s6.below _
          have szr : n₀ ≤ w4.heap.size := Nat.le_trans HN0.out W4.out.size
          have OT6 := OT.out
          have FIN := Lib.hid (show RcS n₀ S w t p key (getE ek5 u.toNat) b1 w6 from ⟨k.kid u, HGO.out, by have := HL.out; have := HBE.out; omega, OTre.belowS OT6 HSS.out (b6.mono szr), fun h0 => absurd h0 HBE.out.2.2, fun _ => HNT.out, W4.out.trans (b6.mono szr)⟩)
          clear b6 s6 szr OT6 OT HKD
          go_wp2_with fail
          exact ⟨⟨_, b1, rfl, rfl, HBE.out.1, FIN⟩, by have := HBE.out; simp [intOf]; omega⟩
end Go.Proofs.YtajpipaooaemdaaGreatDoor
