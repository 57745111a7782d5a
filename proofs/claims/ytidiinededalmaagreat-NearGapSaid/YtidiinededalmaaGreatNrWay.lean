/-
  Bytes that a walk has come by, which may be longer afterwards: a row of one's own, or bytes without room behind them. near.own, near.step, near.trimmed.
-/
import Derived.Test.YtidiinededalmaaGreatNd
import Derived.Test.YtidiinededalmaaGreatStops
import Derived.Test.YtidiinededalmaaGreatMem
import Derived.Test.YtidiinededalmaaGreatCanon
import Derived.Test.YtidiinededalmaaGreatPairE
import Derived.Test.YtidiinededalmaaGreatNrQ
import Derived.ArgAppend
import Derived.Lib.AppendZerosOnto
namespace Go.Proofs.YtidiinededalmaaGreat
open Go.RowKit

/-- The slice holds l; what is put behind it is written into no block that is there but those in N. -/
structure Wy (w : World) (n₀ : Nat) (N : Nat → Prop) (A : Option Addr) (n c : Nat) (l : List UInt8) : Prop where
  is : (Mine w 0 5 (.slice A n c) n l ∧ ∀ i, (Value.slice A n c).ownBlock = some i → N i) ∨ (c = n ∧ (∃ ad, A = some ad) ∧ Byt w n₀ A n l)
  lo : ∀ i, N i → n₀ ≤ i
theorem Wy.nil (w : World) (n₀ : Nat) : Wy w n₀ (fun _ => False) none 0 0 [] := ⟨.inl ⟨Mine.nil _ _ _, fun i q => by simp [Value.ownBlock] at q⟩, fun _ q => q.elim⟩
section
variable {w w' : World} {n₀ : Nat} {N : Nat → Prop} {A : Option Addr} {n c : Nat} {l : List UInt8}
theorem Wy.len (h : Wy w n₀ N A n c l) : l.length = n := by
  rcases h.is with h | ⟨_, _, h⟩
  · exact Mine.length h.1
  · exact h.1
theorem Wy.room (h : Wy w n₀ N A n c l) : n ≤ c := by
  rcases h.is with h | ⟨rfl, _, _⟩
  · exact Mine.room h.1
  · exact Nat.le_refl _
theorem Wy.byt (h : Wy w n₀ N A n c l) (hn : n₀ ≤ w.heap.size) : Byt w w.heap.size A n l := by
  rcases h.is with h | ⟨_, _, h⟩
  · exact Mine.byt h.1
  · exact h.more hn
theorem Wy.mono {N' : Nat → Prop} (h : Wy w n₀ N A n c l) (hN : ∀ i, N i → N' i) (hl : ∀ i, N' i → n₀ ≤ i) : Wy w n₀ N' A n c l := by
  refine ⟨?_, hl⟩
  rcases h.is with ⟨h1, h2⟩ | h
  · exact .inl ⟨h1, fun i q => hN i (h2 i q)⟩
  · exact .inr h
theorem Wy.kept {D : Nat → Prop} (h : Wy w n₀ N A n c l) (hk : Kept D w w') (hn : n₀ ≤ w.heap.size) (hD : ∀ i, D i → n₀ ≤ i ∧ ¬ N i) : Wy w' n₀ N A n c l := by
  refine ⟨?_, h.lo⟩
  rcases h.is with ⟨h1, h2⟩ | ⟨h1, h2, h3⟩
  · exact .inl ⟨h1.kept hk (fun i q z => (hD i z).2 (h2 i q)), h2⟩
  · exact .inr ⟨h1, h2, h3.below (hk.below hn (fun i q => (hD i q).1))⟩
theorem Wy.of_byt (h : Byt w n₀ A n l) : Wy w n₀ (fun _ => False) A n n l := by
  cases A with
  | none =>
    obtain rfl : n = 0 := by
      rcases Nat.eq_zero_or_pos n with q | q
      · exact q
      · obtain ⟨ad, e, _⟩ := h.2.2 q; cases e
    obtain rfl : l = [] := List.eq_nil_of_length_eq_zero h.1
    exact Wy.nil _ _
  | some ad => exact ⟨.inr ⟨rfl, ⟨ad, rfl⟩, h⟩, fun _ q => q.elim⟩
set_option maxRecDepth 100000 in
/-- append onto it. -/
theorem Wy.append (h : Wy w n₀ N A n c l) (hn : n₀ ≤ w.heap.size) {B : Nat} {A1 : Option Addr} {m c1 : Nat} {l1 : List UInt8} (hb : Byt w B A1 m l1) (hle : n + m ≤ 140737488355328) {k : Nat} (hk : n + m = k) :
    ∃ A2 c2 w2, (Builtin.append_ #[23, 23] 23 #[.slice A n c, .slice A1 m c1]).run Tryz.prog w = .ok (.slice A2 k c2) w2 ∧ Wy w2 n₀ (fun i => N i ∨ w.heap.size ≤ i) A2 k c2 (l ++ l1) ∧ Kept N w w2 := by
  subst hk
  have hlo : ∀ i, (N i ∨ w.heap.size ≤ i) → n₀ ≤ i := fun i q => q.elim (h.lo i) (fun q => Nat.le_trans hn q)
  rcases h.is with ⟨h1, h2⟩ | ⟨hc, ⟨ad, rfl⟩, h⟩
  · obtain ⟨v2, w2, r1, r2, r3, r4⟩ := run_append_byt (P := Tryz.prog) w (t := 23) (ty := 23) Tryz.underlying23 info_u8 0 _ _ _ h1 _ A1 m c1 l1 hb hle (Nat.zero_le _)
    obtain ⟨A2, c2, rfl⟩ := Mine.slice r2
    exact ⟨A2, c2, w2, r1, ⟨.inl ⟨r2, fun i q => by
      rcases r4 with r4 | r4
      · rw [r4] at q; exact .inl (h2 i q)
      · rw [r4] at q; injection q with q; exact .inr (Nat.le_of_eq q)⟩, hlo⟩, ⟨r3.os, r3.tape, r3.output, r3.size, fun i hi hi2 => r3.block i hi (fun q => hi2 (h2 i q.symm))⟩⟩
  · subst hc
    obtain ⟨i0, hi0, hz0, hz1, hz2⟩ := info_parts info_u8
    rcases Nat.eq_zero_or_pos m with h0 | h0
    · subst h0
      obtain rfl : l1 = [] := List.eq_nil_of_length_eq_zero hb.1
      refine ⟨some ad, c, w, ?_, ⟨.inr ⟨by omega, ⟨ad, rfl⟩, by simpa using h⟩, hlo⟩, Kept.refl _ _⟩
      cases A1 <;> simp [Builtin.append_, run_underlying Tryz.underlying23, sizeOf, typeInfo, hi0, Builtin.lenOf, Builtin.firstCells, storeCells, loadCells, loadCellsFrom]
    · obtain ⟨ad1, rfl, _, hc1⟩ := hb.2.2 h0
      have hcells : ∀ {ad : Addr} {l : List UInt8}, (∀ (j : Nat) (u : UInt8), l[j]? = some u → w.cell? (ad.add j) = some (.int .u8 (u.toNat : Int))) → ∀ j u, (l.map bv)[j]? = some u → w.cell? (ad.add j) = some u := by
        intro ad l hl j u hu
        rw [List.getElem?_map] at hu
        rcases hx : l[j]? with _ | b
        · rw [hx] at hu; simp at hu
        · rw [hx] at hu
          simp only [Option.map_some, Option.some.injEq] at hu
          subst hu
          exact hl j b hx
      obtain ⟨v2, w2, r1, r2, r3⟩ := run_append_arg_grows (P := Tryz.prog) w 23 23 5 i0 (.int .u8 0) 1 1 Tryz.underlying23 hi0 hz0 hz1 hz2 rfl (by omega) ad c c (l.map bv) (by have := h.1; simpa using this) (by
          rcases Nat.eq_zero_or_pos c with q | q
          · subst q
            obtain rfl : l = [] := List.eq_nil_of_length_eq_zero h.1
            intro j u hu
            simp at hu
          · obtain ⟨ad', e, _, h4⟩ := h.2.2 q
            injection e with e
            subst e
            exact hcells h4)
        ad1 m c1 (l1.map bv) (by have := hb.1; simpa using this) (hcells hc1) (by omega) (by unfold maxLen; omega) (by omega)
      have hm : Mine w2 w.heap.size 5 v2 (c + m) (l ++ l1) := by unfold Mine; rw [List.map_append]; exact r2
      obtain ⟨A2, c2, rfl⟩ := Mine.slice hm
      refine ⟨A2, c2, w2, r1, ⟨.inl ⟨⟨hm.1, ?_⟩, fun i q => .inr (hm.lt i q).1⟩, hlo⟩, ⟨r3.os, r3.tape, r3.output, r3.size, fun i hi _ => r3.block i hi (fun q => by cases q)⟩⟩
      rcases hm.2 with q | ⟨g, cap, cur, q, h1, h2⟩
      · exact .inl q
      · exact .inr ⟨g, cap, cur, q, Nat.zero_le _, h2⟩
end

/-- bytes.Clone, once more: what it hands back has room for itself. -/
def ClmPost (w : World) (l : List UInt8) (e : Ending) (w' : World) : Prop :=
  ∃ A c, e = .returned (.slice A l.length c) ∧ Byt w' w'.heap.size A l.length l ∧ l.length ≤ c ∧ (∀ i, Pb A l i → w.heap.size ≤ i) ∧ Below w.heap.size w w'
set_option maxRecDepth 100000 in
set_option maxHeartbeats 400000 in
theorem bclonem_any (A : Option Addr) (n c B : Nat) (l : List UInt8) (w : World) (ha : Byt w B A n l) (hB : B ≤ w.heap.size) (hn : n ≤ 140737488355328) : Calls Tryz.prog 44 #[.slice A n c] w (ClmPost w l) := by
  cases A with
  | none =>
    have h0 : l = [] := by
      cases l with
      | nil => rfl
      | cons u l => obtain ⟨ad, e, _⟩ := ha.2.2 (by have := ha.1; simp at this; omega); cases e
    subst h0
    clear ha
    have hnil := nilb_yes n c
    go_enter Tryz.func44, Tryz.ntmps44
    go_wp2
    go_ret
    exact ⟨none, 0, rfl, Byt.none_, Nat.le_refl _, fun i q => absurd rfl q.1, Below.refl _ _⟩
  | some ad =>
    have HA := Lib.hid ha
    clear ha
    have hnil := nilb_no ad n c
    go_enter Tryz.func44, Tryz.ntmps44
    go_wp2_with (at_builtin
                 refine wpList_append_byt _ rfl (.tmp 5) (.tmp 6) _ rfl Tryz.underlying23 info_u8 w.heap.size (.slice (some ⟨w.heap.size, 0, none⟩) 0 0) 0 [] rfl (Mine.made w _ _ 0 (by unfold maxLen; omega) (Nat.le_refl _)) B (some ad) n c l rfl (HA.out.alloc hB _) (by omega) (by simp) ?_
                 intro v2 w2 hm2 hg2 _
                 rw [Nat.zero_add, List.nil_append] at hm2
                 have HM2 := Lib.hid hm2
                 have C2 := Lib.hid (((Below.refl w.heap.size w).alloc (Nat.le_refl _) _).grown hg2 (by simp) (by simp [Value.ownBlock]))
                 clear hm2 hg2)
    go_wp2
    go_ret
    obtain ⟨A2, c2, rfl⟩ := HM2.out.slice
    have hl := HA.out.1
    subst hl
    refine ⟨A2, c2, rfl, HM2.out.byt, HM2.out.room, fun i hi => ?_, C2.out⟩
    obtain ⟨hne, ad2, rfl, rfl⟩ := hi
    obtain ⟨g2, cap, hv, hlo, _⟩ := World.ownsRow.form HM2.out (List.length_pos_iff.2 hne)
    injection hv with hv
    injection hv with hv
    subst hv
    exact hlo

/-- A pair that is told, or none. -/
def oK (o : Option KV) : List UInt8 := match o with | some p => p.1 | none => []
def oV (o : Option KV) : Int := match o with | some p => p.2 | none => 0
def NrPost (N : Nat → Prop) (w : World) (o : Option KV) (e : Ending) (w' : World) : Prop :=
  ∃ A c, e = .returned (.tuple #[.agg #[.slice A (oK o).length c, .int .u64 (oV o)], .bool o.isSome]) ∧ Byt w' w'.heap.size A (oK o).length (oK o) ∧ (oK o).length ≤ c ∧ (∀ i, Pb A (oK o) i → w.heap.size ≤ i) ∧ Kept N w w'
theorem NrPost.none_ {N : Nat → Prop} {w w' : World} (hb : Kept N w w') : NrPost N w none (.returned (.tuple #[.agg #[.slice none 0 0, .int .u64 0], .bool false])) w' := ⟨none, 0, rfl, Byt.none_, Nat.le_refl _, fun _ q => absurd rfl q.1, hb⟩

set_option maxRecDepth 100000 in
/-- A node's own pair. -/
theorem nown_of (p : Option Addr) (A : Option Addr) (n c : Nat) (l : List UInt8) (v : Int) (h : Bool) (w : World) (hl : Byt w w.heap.size A n l) (hn : n ≤ 1000000) (o : Option KV) (ho : (if h then some (l, v) else none) = o)
    (hc : ∀ V, Below w.heap.size w V → Calls Tryz.prog 43 #[.pointer p] V fun e w' => e = .returned (.tuple #[.int .u64 v, .bool h]) ∧ Still V w') :
    Calls Tryz.prog 41 #[.slice A n c, .pointer p] w (NrPost (fun _ => False) w o) := by
  obtain ⟨W, hW⟩ : ∃ W, w.alloc (.cells #[.slice none 0 0, .int .u64 0] 31) = W := ⟨_, rfl⟩
  have hb : Below w.heap.size w W := by rw [← hW]; exact (Below.refl _ _).alloc (Nat.le_refl _) _
  have hj : Blk W w.heap.size #[.slice none 0 0, .int .u64 0] := by rw [← hW]; exact Blk.new w _ _
  have HC := Lib.hid (hc W hb)
  have HW := Lib.hid hW
  have HB := Lib.hid hb
  have HY := Lib.hid (fun V (hV : Below w.heap.size w V) => hl.below hV)
  have HJ := Lib.hid hj
  have HN := Lib.hid (And.intro hn hl.1)
  have HO := Lib.hid ho
  clear hc hb hj hW hl hn ho
  go_enter Tryz.func41, Tryz.ntmps41
  go_wp2_with fail
  rw [HW.out]
  (with_reducible refine HC.out.mono ?_)
  rintro e w1 ⟨rfl, s1⟩
  have b1 : Below W.heap.size W w1 := s1.below _
  have sz : w.heap.size < W.heap.size := HJ.out.lt
  have J1 := Lib.hid (HJ.out.below b1 sz)
  have B1 := Lib.hid (HB.out.trans (b1.mono (Nat.le_of_lt sz)))
  have SZ := Lib.hid (Nat.lt_of_lt_of_le sz b1.size)
  clear b1 s1 sz HC
  cases h with
  | false =>
    obtain rfl : none = o := HO.out
    have c1 := J1.out.cell 0
    have c2 := J1.out.cell 1
    have z1 := J1.out.fz 0
    have z2 := J1.out.fz 1
    go_wp2_with fail
    obtain ⟨t1, t2⟩ := two_set J1.out (.slice none 0 0) (.int .u64 0)
    exact close2e rfl rfl rfl rfl (pair_load t1) (NrPost.none_ (Kept.of_below (B1.out.trans (t2.below (Nat.le_of_lt SZ.out) (fun i e => by omega)))))
  | true =>
    have HD := Lib.hid (bclonem_any A n c w1.heap.size l w1 ((HY.out w1 B1.out).more B1.out.size) (Nat.le_refl _) (by have := HN.out.1; omega))
    go_wp2_with fail
    (with_reducible refine HD.out.mono ?_)
    rintro e w2 ⟨A2, c2, rfl, y2, nc2, pb2, b2⟩
    have J2 := Lib.hid (J1.out.below b2 SZ.out)
    have B2 := Lib.hid (B1.out.trans (b2.mono B1.out.size))
    have Y2 := Lib.hid (show Byt w2 w2.heap.size A2 l.length l ∧ l.length ≤ c2 ∧ ∀ i, Pb A2 l i → w.heap.size < i from ⟨y2, nc2, fun i hi => by have := pb2 i hi; have := SZ.out; omega⟩)
    have SZ2 := Lib.hid (Nat.lt_of_lt_of_le SZ.out b2.size)
    have c1 := J2.out.cell 0
    have c2' := J2.out.cell 1
    have z1 := J2.out.fz 0
    have z2 := J2.out.fz 1
    clear y2 nc2 pb2 b2 HD
    go_wp2_with fail
    obtain ⟨t1, t2⟩ := two_set J2.out (.slice A2 l.length c2) (.int .u64 v)
    obtain rfl : some (l, v) = o := HO.out
    exact close2e rfl rfl rfl rfl (pair_load t1) ⟨A2, c2, rfl, (Y2.out.1.keepPb fun q hq => t2.cell (Y2.out.1.ltPb hq) (fun e => Nat.lt_irrefl _ (e ▸ Y2.out.2.2 _ hq))).more t2.size, Y2.out.2.1, fun i hi => Nat.le_of_lt (Y2.out.2.2 i hi), Kept.of_below (B2.out.trans (t2.below (Nat.le_of_lt SZ2.out) (fun i e => by omega)))⟩
set_option maxRecDepth 100000 in
/-- So many bytes, without room behind them. -/
theorem ntrim_any (A : Option Addr) (n c k : Nat) (hk : k ≤ n) (hc : n ≤ c) (w : World) :
    Calls Tryz.prog 35 #[.slice A n c, .int .i64 (k : Int)] w fun e w' => e = .returned (.slice A k k) ∧ w' = w := by
  have hs : ∀ V : World, (Instr.slice 23 (.slice A n c) none (some (.int .i64 (k : Int))) (some (.int .i64 (k : Int)))).run Tryz.prog V = .ok (.slice A k k) V := fun V => by
    have he : Tryz.prog.elem 23 = 5 := by simp [Program.elem, Tryz.underlying23]
    rw [run_slice_hm V 23 A n c (by rw [he]; exact Tryz.underlying23) .i64 .i64 (k : Int) (k : Int) (by omega) (by omega) (by omega)]
    obtain ⟨i0, hi0, hz0, hz1, hz2⟩ := info_parts info_u8
    cases A <;> simp [he, sizeOf, typeInfo, hi0, hz1, sliced, Addr.add]
  go_enter Tryz.func35, Tryz.ntmps35
  go_wp2
  go_ret
  exact ⟨rfl, rfl⟩

set_option maxRecDepth 100000 in
/-- near.step, by a method that answers no kid, or one. -/
theorem nstep_none (A : Option Addr) (n c : Nat) (w : World) (K : FuncId) (r : Value) (fr : Int) (hK : ∀ (xs : Array Value) (V : World), (callFunc K xs).run Tryz.prog V = .ok (.enter K xs) V) {z : Int}
    (hc : Calls Tryz.prog K #[r, .int .i64 fr] w fun e w' => e = .returned (.tuple #[.int .u8 z, .pointer none]) ∧ Still w w') :
    Calls Tryz.prog 37 #[.slice A n c, .func (.func K) #[r] #[], .int .i64 fr] w fun e w' => e = .returned (.tuple #[.slice none 0 0, .pointer none]) ∧ Still w w' := by
  have HC := Lib.hid hc
  clear hc
  go_enter Tryz.func37, Tryz.ntmps37
  go_wp2_with fail
  (with_reducible refine HC.out.mono ?_)
  rintro e w1 ⟨rfl, s1⟩
  have B1 := Lib.hid s1
  clear s1 HC
  go_wp2_with fail
  go_ret2
  exact ⟨rfl, B1.out⟩
/-- What step leaves where there is a kid. -/
def StpPost (n₀ : Nat) (N : Nat → Prop) (w : World) (k : Nat) (l : List UInt8) (q : Addr) (e : Ending) (w' : World) : Prop :=
  ∃ A2 c2, e = .returned (.tuple #[.slice A2 k c2, .pointer (some q)]) ∧ Wy w' n₀ (fun i => N i ∨ w.heap.size ≤ i) A2 k c2 l ∧ Kept N w w'
set_option maxRecDepth 100000 in
theorem nstep_some (n₀ : Nat) (N : Nat → Prop) (A : Option Addr) (n c k : Nat) (l l2 : List UInt8) (w : World) (hn₀ : n₀ ≤ w.heap.size) (hw : Wy w n₀ N A n c l) (hn : n ≤ 1000000) (hk : n + 1 = k) (K : FuncId) (r : Value) (fr : Int) (b : UInt8) (hl2 : l ++ [b] = l2) (q : Addr) (hK : ∀ (xs : Array Value) (V : World), (callFunc K xs).run Tryz.prog V = .ok (.enter K xs) V)
    (hc : Calls Tryz.prog K #[r, .int .i64 fr] w fun e w' => e = .returned (.tuple #[.int .u8 (b.toNat : Int), .pointer (some q)]) ∧ Still w w') :
    Calls Tryz.prog 37 #[.slice A n c, .func (.func K) #[r] #[], .int .i64 fr] w (StpPost n₀ N w k l2 q) := by
  have HC := Lib.hid hc
  have HN := Lib.hid (And.intro hn₀ hn)
  have HW := Lib.hid hw
  have HK := Lib.hid hk
  have HL := Lib.hid hl2
  clear hc hn₀ hn hw hk hl2
  go_enter Tryz.func37, Tryz.ntmps37
  go_wp2_with fail
  (with_reducible refine HC.out.mono ?_)
  rintro e w1 ⟨rfl, s1⟩
  have k1 : Kept (fun _ => False) w w1 := Kept.still s1
  have W1 := HW.out.kept k1 HN.out.1 (fun _ q => q.elim)
  have sz : n₀ ≤ w1.heap.size := Nat.le_trans HN.out.1 k1.size
  obtain ⟨V, hV⟩ : ∃ V, w1.alloc (.cells #[.int .u8 (b.toNat : Int)] 5) = V := ⟨_, rfl⟩
  have yb := byt_one w1 5 (u := b) rfl
  have kV : Kept (fun _ => False) w1 V := by rw [← hV]; exact Kept.of_below ((Below.refl _ _).alloc (Nat.le_refl _) _)
  rw [hV] at yb
  obtain ⟨A2, c2, w2, hrun, wy2, k2⟩ := (W1.kept kV sz (fun _ q => q.elim)).append (Nat.le_trans sz kV.size) (c1 := 1) yb (by have := HN.out.2; omega) HK.out
  rw [HL.out] at wy2
  have R2 := Lib.hid (show Wy w2 n₀ (fun i => N i ∨ w.heap.size ≤ i) A2 k c2 l2 ∧ Kept N w w2 from
    ⟨wy2.mono (fun i q => q.imp id (fun q => Nat.le_trans (Nat.le_trans k1.size kV.size) q)) (fun i q => q.elim (wy2.lo i ∘ .inl) (fun q => Nat.le_trans HN.out.1 q)), ((k1.mono (fun _ q => q.elim)).trans (kV.mono (fun _ q => q.elim))).trans k2⟩)
  rw [← hV] at hrun
  clear hV yb kV wy2 k2 W1 k1 sz s1 HC
  go_wp2_with (at_builtin; refine Lib.wpList_append_run _ rfl _ _ _ _ rfl _ _ rfl rfl _ _ hrun ?_)
  go_ret2
  exact ⟨A2, c2, rfl, R2.out.1, R2.out.2⟩
end Go.Proofs.YtidiinededalmaaGreat
