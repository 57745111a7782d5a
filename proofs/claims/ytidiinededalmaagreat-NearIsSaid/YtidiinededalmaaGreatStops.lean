/-
  What canon.stops gives: all nodes of a tree, each one ahead of its kids.
-/
import Derived.Test.YtidiinededalmaaGreatTree
import Derived.WalkKit
import Derived.OwnWalkIn
import Derived.TacticsInMore
import Derived.Sort.LoopGhostIn
import Derived.Stop.RegionWithIn
import Derived.Laws.EntriesVeiled
namespace Go.Proofs.YtidiinededalmaaGreat
open Go.RowKit Go.Shelf
attribute [local go_sem] Oper.semAt_some

theorem Mine.kept {w w' : World} {D : Nat → Prop} {base : Nat} {e : TypeId} {v : Value} {n : Nat} {l : List UInt8} (h : Mine w base e v n l) (hk : Kept D w w') (hD : ∀ i, v.ownBlock = some i → ¬ D i) : Mine w' base e v n l := by
  refine ⟨h.1, ?_⟩
  rcases h.2 with q | ⟨g, cap, cur, rfl, h2, h3, h4⟩
  · exact .inl q
  · exact .inr ⟨g, cap, cur, rfl, h2, (hk.block g (Array.getElem?_eq_some_iff.1 h3).1 (hD g rfl)).trans h3, h4⟩
/-- Its first bytes. -/
theorem Mine.cut {w : World} {base : Nat} {e : TypeId} {A : Option Addr} {n c : Nat} {l : List UInt8} (h : Mine w base e (.slice A n c) n l) {k : Nat} (hk : k ≤ n) : Mine w base e (.slice A k c) k (l.take k) := by
  have hl := Mine.length h
  refine ⟨by simp; omega, ?_⟩
  rcases h.2 with ⟨q, q'⟩ | ⟨g, cap, cur, q, h2, h3, h4, h5, h6, h7⟩
  · subst q'
    obtain rfl : k = 0 := by omega
    exact .inl ⟨q, rfl⟩
  · injection q with q1 q2 q3
    subst q1 q3
    refine .inr ⟨g, c, cur, rfl, h2, h3, by omega, h5, h6, ?_⟩
    rw [List.map_take, ← h7, List.take_take]
    congr 1
    omega
/-- b[:k], whatever room stands behind. -/
theorem slice_upto {P : Program} {t e : TypeId} (ht : P.underlying t = some (.slice e)) (hsz : (P.info? e).map (·.size) = some 1) (A : Option Addr) (k n c : Nat) (hc : k ≤ c) (W : World) :
    (Instr.slice t (.slice A n c) none (some (.int .i64 (k : Int))) none).run P W = .ok (.slice A k c) W := by
  have he : P.elem t = e := by simp [Program.elem, ht]
  have ht' : P.underlying t = some (.slice (P.elem t)) := by rw [he]; exact ht
  obtain ⟨i, hi, hi1⟩ : ∃ i, P.info? e = some i ∧ i.size = 1 := by
    rcases h : P.info? e with _ | i
    · rw [h] at hsz; cases hsz
    · rw [h] at hsz; exact ⟨i, rfl, by simpa using hsz⟩
  rw [run_slice_h W t A n c ht' .i64 (k : Int) (by omega) (by omega)]
  cases A <;> simp [he, sizeOf, typeInfo, hi, hi1, sliced, Addr.add]
/-- append of bytes onto a row of one's own, inside a fence. -/
theorem wpIn_append_byt {F : Fence} {n₁ : Nat} {P : Program} (w : World) {o : Oper} {a : Act} {K : Act → World → Prop} {Q : Exit → Act → World → Prop} (s x : Operand) (t : TypeId)
    (ho : o.op = .call { callee := .builtin .append, args := #[s, x], argTypes := #[t, t] }) {v v' : Value} {w' : World} {A : Option Addr} {m c : Nat} (hs : a.eval s = v) (hx : a.eval x = .slice A m c)
    (hrun : (Builtin.append_ #[t, t] o.type #[v, .slice A m c]).run P w = .ok v' w') (h : K (a.put o.dst v') w') : o.wpIn F n₁ P a w K Q := by
  unfold Oper.wpIn
  refine ⟨?_, ?_⟩
  · simp [Oper.about, ho, resolve, Target.leads, Sem.run_pure]
  · rw [Oper.semAt_plain F _ _ (by rw [ho]; intro c hc'; cases hc')]
    simp [execOp, ho, resolve, invoke, builtin, hs, hx, hrun, Result.andThen]
    exact h
theorem wpListIn_append_eq {F : Fence} {n₁ : Nat} {P : Program} {w : World} {ops : Array Oper} {rest : List Oper} {o : Oper} {a : Act} {Q : Exit → Act → World → Prop} (hgd : o.guard = none) (s x : Operand) (t : TypeId)
    (ho : o.op = .call { callee := .builtin .append, args := #[s, x], argTypes := #[t, t] }) {v v' : Value} {w' : World} {A : Option Addr} {m c : Nat} (hs : a.eval s = v) (hx : a.eval x = .slice A m c)
    (hrun : (Builtin.append_ #[t, t] o.type #[v, .slice A m c]).run P w = .ok v' w') (h : wpListIn F n₁ P ops Q rest (a.put o.dst v') w') : wpListIn F n₁ P ops Q (o :: rest) a w :=
  wpListIn_plain hgd fun _ hK => wpIn_append_byt w s x t ho hs hx hrun (hK _ _ h)
theorem wide_deep {m : Nat} : Fence.wide.depth.isSome = true → 1 ≤ m := fun h => by simp [Fence.wide] at h
/-- What the iterator holds between two rounds: the way's box, yield's, its own; the way is a row of its own. -/
structure It (l n₀ Bw By Bd : Nat) (W : World) (N : Nat → Prop) (pw : List UInt8) : Prop where
  way : ∃ A c, Blk W Bw #[.slice A pw.length c] ∧ Mine W n₀ 5 (.slice A pw.length c) pw.length pw ∧ ∀ i, (Value.slice A pw.length c).ownBlock = some i → N i ∧ i ≠ Bw ∧ i ≠ By ∧ i ≠ Bd
  y : Blk W By #[.func (.yield l) #[] #[]]
  d : Blk W Bd #[.func (.func 59) #[] #[.pointer (some ⟨Bw, 0, none⟩), .pointer (some ⟨By, 0, none⟩), .pointer (some ⟨Bd, 0, none⟩)]]
  own : N Bw ∧ N By ∧ N Bd
  ne : Bw ≠ By ∧ Bw ≠ Bd ∧ By ≠ Bd
  new : ∀ i, N i → n₀ ≤ i ∧ i < W.heap.size
  size : n₀ ≤ W.heap.size
theorem It.kept {l n₀ Bw By Bd : Nat} {W W' : World} {N D : Nat → Prop} {pw : List UInt8} (h : It l n₀ Bw By Bd W N pw) (hk : Kept D W W') (hD : ∀ i, N i → ¬ D i) : It l n₀ Bw By Bd W' N pw := by
  obtain ⟨⟨A, c, h1, h2, h3⟩, h4, h5, h6, h7, h8, h9⟩ := h
  exact ⟨⟨A, c, hk.blk h1 (hD _ h6.1), h2.kept hk (fun i hi => hD i (h3 i hi).1), h3⟩, hk.blk h4 (hD _ h6.2.1), hk.blk h5 (hD _ h6.2.2), h6, h7, fun i hi => ⟨(h8 i hi).1, Nat.lt_of_lt_of_le (h8 i hi).2 hk.size⟩, Nat.le_trans h9 hk.size⟩

section
variable {l n₀ Bw By Bd : Nat} {J : List Vt → (Nat → Prop) → World → Prop} {Jx : World → Prop} {vs : List Vt}
def DPost (l n₀ Bw By Bd : Nat) (J : List Vt → (Nat → Prop) → World → Prop) (Jx : World → Prop) (xs : List Vt) (pw : List UInt8) (W : World) (e : Ending) (W' : World) : Prop :=
  (e = .returned (.bool true) ∧ ∃ N', J xs N' W' ∧ It l n₀ Bw By Bd W' N' pw ∧ Below n₀ W W') ∨ (e = .returned (.bool false) ∧ Jx W')
def Down (l n₀ Bw By Bd : Nat) (J : List Vt → (Nat → Prop) → World → Prop) (Jx : World → Prop) (vs : List Vt) (x : Nn) (k : Fo) : Prop :=
  ∀ (m : Nat) (pre post : List Vt) (N : Nat → Prop) (g : Nat) (pw : List UInt8) (d : Nat) (W : World), vs = pre ++ tvis x k pw d ++ post → (∀ v ∈ vs, v.way.length ≤ 1000000 ∧ v.deep ≤ 1000000) → Tre W (· < n₀) x k g → J pre N W → It l n₀ Bw By Bd W N pw →
    CallsIn Fence.wide m Tryz.prog 59 #[.pointer (some ⟨g, 0, none⟩), .int .i64 (d : Int), .pointer (some ⟨Bw, 0, none⟩), .pointer (some ⟨By, 0, none⟩), .pointer (some ⟨Bd, 0, none⟩)] W
      (DPost l n₀ Bw By Bd J Jx (pre ++ tvis x k pw d) pw W)

set_option maxRecDepth 100000 in
/-- The way gets longer. -/
theorem It.more {l n₀ Bw By Bd : Nat} {W W1 : World} {N : Nat → Prop} {pw p : List UInt8} (h : It l n₀ Bw By Bd W N pw) {A A1 : Option Addr} {c c1 : Nat} (hc : W.cell? ⟨Bw, 0, none⟩ = some (.slice A pw.length c)) (hb : Below W.heap.size W W1)
    (hp : Byt W1 W1.heap.size A1 p.length p) (hn : pw.length + p.length ≤ 140737488355328) {q : Nat} (hq : (pw ++ p).length = q) :
    ∃ A2 c2 W2, (Builtin.append_ #[23, 23] 23 #[.slice A pw.length c, .slice A1 p.length c1]).run Tryz.prog W1 = .ok (.slice A2 q c2) W2 ∧ W1.cell? ⟨Bw, 0, none⟩ = some (.slice A pw.length c) ∧
      W2.cell? ⟨Bw, 0, none⟩ = some (.slice A pw.length c) ∧ W2.frozen? ⟨Bw, 0, none⟩ = false ∧
      ∃ N3, It l n₀ Bw By Bd (W2.setCell ⟨Bw, 0, none⟩ (.slice A2 q c2)) N3 (pw ++ p) ∧ Kept N W (W2.setCell ⟨Bw, 0, none⟩ (.slice A2 q c2)) ∧ (∀ i, N3 i → N i ∨ W.heap.size ≤ i) ∧
        (∀ i, Pb A2 (pw ++ p) i → N3 i) ∧ Byt (W2.setCell ⟨Bw, 0, none⟩ (.slice A2 q c2)) (W2.setCell ⟨Bw, 0, none⟩ (.slice A2 q c2)).heap.size A2 q (pw ++ p) ∧ q ≤ c2 ∧ (W2.setCell ⟨Bw, 0, none⟩ (.slice A2 q c2)).cell? ⟨Bw, 0, none⟩ = some (.slice A2 q c2) := by
  subst hq
  have H0 := h
  obtain ⟨⟨A', c', h1, h2, h3⟩, h4, h5, h6, h7, h8, h9⟩ := h
  have e : (some (Value.slice A' pw.length c') : Option Value) = some (.slice A pw.length c) := by rw [← hc]; exact (h1.cell 0).symm
  injection e with e
  injection e with e1 _ e2
  subst e1 e2
  have k1 : Kept (fun _ => False) W W1 := Kept.of_below hb
  have m1 := h2.kept k1 (fun _ _ q => q)
  have s1 := hb.size
  obtain ⟨v2, W2, r1, r2, r3, r4⟩ := run_append_byt (P := Tryz.prog) W1 (t := 23) (ty := 23) Tryz.underlying23 info_u8 n₀ _ _ _ m1 _ A1 p.length c1 p hp hn (by omega)
  obtain ⟨A2, c2, rfl⟩ := Mine.slice r2
  have own1 : ∀ i, (Value.slice A' pw.length c').ownBlock = some i → i < W.heap.size := fun i hi => (h2.lt i hi).2
  have k2 : Kept N W1 W2 := ⟨r3.os, r3.tape, r3.output, r3.size, fun i hi hn => r3.block i hi (fun q => hn (h3 i q.symm).1)⟩
  have k12 : Kept N W W2 := (k1.mono (fun _ q => q.elim)).trans k2
  have b1 : Blk W2 Bw #[.slice A' pw.length c'] := by
    obtain ⟨t, hb1⟩ := k1.blk h1 (fun q => q)
    exact ⟨t, (r3.block Bw (by have := (h8 _ h6.1).2; omega) (fun q => (h3 _ q.symm).2.1 rfl)).trans hb1⟩
  have by_ : Blk W2 By #[.func (.yield l) #[] #[]] := by
    obtain ⟨t, hb1⟩ := k1.blk h4 (fun q => q)
    exact ⟨t, (r3.block By (by have := (h8 _ h6.2.1).2; omega) (fun q => (h3 _ q.symm).2.2.1 rfl)).trans hb1⟩
  have bd : Blk W2 Bd #[.func (.func 59) #[] #[.pointer (some ⟨Bw, 0, none⟩), .pointer (some ⟨By, 0, none⟩), .pointer (some ⟨Bd, 0, none⟩)]] := by
    obtain ⟨t, hb1⟩ := k1.blk h5 (fun q => q)
    exact ⟨t, (r3.block Bd (by have := (h8 _ h6.2.2).2; omega) (fun q => (h3 _ q.symm).2.2.2 rfl)).trans hb1⟩
  rw [← List.length_append] at r1 r2 r4
  have m2 : Mine W2 n₀ 5 (.slice A2 (pw ++ p).length c2) (pw ++ p).length (pw ++ p) := r2
  have s2 := r3.size
  have own2 : ∀ i, (Value.slice A2 (pw ++ p).length c2).ownBlock = some i → (N i ∨ (W.heap.size ≤ i ∧ i < W2.heap.size)) ∧ i ≠ Bw ∧ i ≠ By ∧ i ≠ Bd := fun i hi => by
    have hlt := (m2.lt i hi).2
    rcases r4 with q | q
    · have q' : (Value.slice A2 (pw ++ p).length c2).ownBlock = (Value.slice A' pw.length c').ownBlock := q
      rw [hi] at q'
      have := h3 i q'.symm
      exact ⟨.inl this.1, this.2⟩
    · have q' : (Value.slice A2 (pw ++ p).length c2).ownBlock = some W1.heap.size := q
      rw [hi] at q'
      injection q' with q'
      subst q'
      exact ⟨.inr ⟨by omega, hlt⟩, by have := (h8 _ h6.1).2; omega, by have := (h8 _ h6.2.1).2; omega, by have := (h8 _ h6.2.2).2; omega⟩
  have ks : Kept (· = Bw) W2 (W2.setCell ⟨Bw, 0, none⟩ (.slice A2 (pw ++ p).length c2)) := Kept.set_ _ _ _ rfl
  have pb : ∀ i, Pb A2 (pw ++ p) i → (Value.slice A2 (pw ++ p).length c2).ownBlock = some i := fun i hi => by
    obtain ⟨_, ad, rfl, rfl⟩ := hi
    rfl
  have m3 := m2.kept ks (fun i hi => (own2 i hi).2.1)
  refine ⟨A2, c2, W2, r1, (k1.blk h1 (fun q => q)).cell 0, b1.cell 0, b1.fz 0, fun i => N i ∨ (W.heap.size ≤ i ∧ i < W2.heap.size), ?_, k12.trans (ks.mono (fun i e => e ▸ h6.1)), fun i q => q.elim .inl (fun q => .inr q.1), fun i hi => (own2 i (pb i hi)).1, m3.byt, m3.room, (b1.set_ 0 (.slice A2 (pw ++ p).length c2)).cell 0⟩
  refine ⟨⟨A2, c2, ?_, m3, own2⟩, ks.blk by_ (fun e => h7.1 e.symm), ks.blk bd (fun e => h7.2.1 e.symm), ⟨.inl h6.1, .inl h6.2.1, .inl h6.2.2⟩, h7, fun i hi => ?_, by have := ks.size; omega⟩
  · have := b1.set_ 0 (.slice A2 (pw ++ p).length c2)
    simpa using this
  · have := ks.size
    rcases hi with q | q
    · have := h8 i q; omega
    · omega

/-- The way gets shorter. -/
theorem It.less {l n₀ Bw By Bd : Nat} {W : World} {N : Nat → Prop} {pw p : List UInt8} (h : It l n₀ Bw By Bd W N (pw ++ p)) : ∃ A c, W.cell? ⟨Bw, 0, none⟩ = some (.slice A (pw ++ p).length c) ∧ W.frozen? ⟨Bw, 0, none⟩ = false ∧ pw.length ≤ c ∧
    It l n₀ Bw By Bd (W.setCell ⟨Bw, 0, none⟩ (.slice A pw.length c)) N pw ∧ Kept N W (W.setCell ⟨Bw, 0, none⟩ (.slice A pw.length c)) := by
  obtain ⟨⟨A, c, h1, h2, h3⟩, h4, h5, h6, h7, h8, h9⟩ := h
  have ks : Kept (· = Bw) W (W.setCell ⟨Bw, 0, none⟩ (.slice A pw.length c)) := Kept.set_ _ _ _ rfl
  have m2 := h2.cut (k := pw.length) (by simp)
  rw [show (pw ++ p).take pw.length = pw by simp] at m2
  have hr := h2.room
  refine ⟨A, c, h1.cell 0, h1.fz 0, by simp at hr; omega, ⟨⟨A, c, ?_, m2.kept ks (fun i hi => ?_), fun i hi => ?_⟩, ks.blk h4 (fun e => h7.1 e.symm), ks.blk h5 (fun e => h7.2.1 e.symm), h6, h7, fun i hi => ⟨(h8 i hi).1, Nat.lt_of_lt_of_le (h8 i hi).2 ks.size⟩, Nat.le_trans h9 ks.size⟩, ks.mono (fun i e => e ▸ h6.1)⟩
  · have := h1.set_ 0 (.slice A pw.length c)
    simpa using this
  · exact (h3 i (by cases A <;> simp_all [Value.ownBlock])).2.1
  · exact h3 i (by cases A <;> simp_all [Value.ownBlock])

set_option maxRecDepth 100000 in
set_option maxHeartbeats 1000000 in
theorem down_step (hA : ∀ pre N N' A B, J pre N A → Kept N A B → (∀ i, N i → n₀ ≤ i) → (∀ i, N' i → N i ∨ A.heap.size ≤ i) → J pre N' B)
    (hY : ∀ m' pre v N W1 g A n c, J pre N W1 → (∃ post, vs = pre ++ v :: post) → (∀ i, N i → n₀ ≤ i ∧ i < W1.heap.size) → n₀ ≤ W1.heap.size → Vis n₀ W1 N v g A n c →
      YieldAt Fence.wide m' Tryz.prog l #[visV g A n c v.deep] W1 fun e W' => (e = .returned (.bool true) ∧ J (pre ++ [v]) N W' ∧ Kept (fun i => n₀ ≤ i ∧ ¬ N i) W1 W') ∨ (e = .returned (.bool false) ∧ Jx W'))
    (x : Nn) (k : Fo) (hK : k.All fun _ x k => Down l n₀ Bw By Bd J Jx vs x k) : Down l n₀ Bw By Bd J Jx vs x k := by
  intro m pre post N g pw d W hvs hle ht hJ hi
  obtain ⟨A, c, cw⟩ : ∃ A c, W.cell? ⟨Bw, 0, none⟩ = some (.slice A pw.length c) := by obtain ⟨⟨A, c, w1, _⟩, _⟩ := hi; exact ⟨A, c, w1.cell 0⟩
  have hle1 : (pw ++ x.part).length ≤ 1000000 ∧ d ≤ 1000000 := hle ⟨x, k.len, pw ++ x.part, d⟩ (by rw [hvs]; simp [tvis])
  obtain ⟨be, A', ek, t1, t2, t3⟩ := ht
  obtain ⟨q, hq⟩ : ∃ q, (pw ++ x.part).length = q := ⟨_, rfl⟩
  have hq1 : q ≤ 1000000 := by rw [← hq]; exact hle1.1
  have hd1 : d ≤ 1000000 := hle1.2
  have T1 := Lib.hid t1
  have HI := Lib.hid hi
  have HJ := Lib.hid hJ
  have P1 := Lib.hid (fun W' (hs : Still W W') => npart_any (t1.still hs))
  have HB := Lib.hid (fun (W1 : World) (hb : Below W.heap.size W.drew W1) A1 c1 (hp : Byt W1 W1.heap.size A1 x.part.length x.part) => It.more (c1 := c1) (A1 := A1) hi cw (W1 := W1) ⟨hb.os, hb.tape, hb.output, hb.size, hb.block⟩ hp (by have := hle1.1; simp at this; omega) hq)
  have cwd : W.drew.cell? ⟨Bw, 0, none⟩ = some (.slice A pw.length c) := cw
  have HQ := Lib.hid hq
  clear t1 hi hJ hle1 hq
  refine callsIn_of_wp Tryz.func59 rfl trivial ?_
  simp only [Tryz.ntmps59, List.size_toArray, List.length_cons, List.length_nil, Nat.reduceAdd, Nat.reduceSub, Array.replicate_succ, Array.replicate_zero, List.push_toArray, List.append_toArray, List.nil_append, List.cons_append]
  gi_wp2_with fail
  refine wpIn_mono (Q := fun e a' w' => e = .normal ∧ ∃ A1 c1 A2 c2, a' = { tmps := #[.pointer (some ⟨g, 0, none⟩), .int .i64 (d : Int), .pointer (some ⟨Bw, 0, none⟩), .pointer (some ⟨By, 0, none⟩), .pointer (some ⟨Bd, 0, none⟩), undef, undef, .bool false, .int .i64 (pw.length : Int), undef, undef, .slice A pw.length c, .int .i64 (pw.length : Int), .slice A pw.length c, .pointer (some ⟨g, 0, none⟩), .slice A1 x.part.length c1, .slice A2 q c2, undef, undef, undef, undef, undef, undef, undef, undef, undef, undef, undef, undef, undef, undef, undef, undef, undef, undef, undef, undef, undef, undef, undef, undef, undef, undef, undef, undef, undef, undef, undef, undef, undef, undef, undef, undef, undef, undef, undef, undef], defers := [] } ∧ ∃ N3, It l n₀ Bw By Bd w' N3 (pw ++ x.part) ∧ Kept N W w' ∧ (∀ i, N3 i → N i ∨ W.heap.size ≤ i) ∧ (∀ i, Pb A2 (pw ++ x.part) i → N3 i) ∧ Byt w' w'.heap.size A2 q (pw ++ x.part) ∧ q ≤ c2 ∧ w'.cell? ⟨Bw, 0, none⟩ = some (.slice A2 q c2)) ?_ ?_
  · refine wpIn_region_any (by kernel_rfl) ?_
    refine wpAnyIn_ready (rs := [0, 1]) (by kernel_rfl) (by simp) (AllReadyIn.cons rfl (fun K hK => ?_) (AllReadyIn.cons rfl (fun K hK => ?_) AllReadyIn.nil))
    · go_simp
      refine hK _ _ ?_
      clear hK K
      refine wpAnyIn_ready (rs := [1]) (by kernel_rfl) (by simp) (AllReadyIn.cons rfl (fun K hK => ?_) AllReadyIn.nil)
      go_simp
      refine hK _ _ ?_
      clear hK K
      refine wpAnyIn_ready (rs := [2]) (by kernel_rfl) (by simp) (AllReadyIn.cons rfl (fun K hK => ?_) AllReadyIn.nil)
      go_simp
      refine ⟨trivial, wide_deep, ?_⟩
      refine (callsIn_wide.2 (P1.out _ ⟨1, rfl⟩)).mono ?_
      rintro e W1 ⟨A1, c1, rfl, y1, _, y3⟩
      obtain ⟨A2, c2, W2, ra, ca, cb, cz, N3, hm⟩ := HB.out W1 y3 A1 c1 y1
      have HM := Lib.hid hm
      clear hm y1 y3
      refine hK _ _ ?_
      clear hK K
      refine wpAnyIn_ready (rs := [3]) (by kernel_rfl) (by simp) (AllReadyIn.cons rfl (fun K hK => ?_) AllReadyIn.nil)
      rw [if_pos (by rfl)]
      refine wpIn_append_byt _ (.tmp 13) (.tmp 15) _ rfl (by rfl) (by rfl) ra ?_
      refine hK _ _ ?_
      clear hK K
      simp only [Act.put, List.setIfInBounds_toArray]
      refine wpAnyIn_ready (rs := [4]) (by kernel_rfl) (by simp) (AllReadyIn.cons rfl (fun K hK => ?_) AllReadyIn.nil)
      go_simp
      refine hK _ _ ?_
      clear hK K
      refine wpAnyIn_done (by kernel_rfl) ?_ _
      exact ⟨rfl, A1, c1, A2, c2, by rfl, N3, HM.out⟩
    · go_simp
      refine hK _ _ ?_
      clear hK K
      refine wpAnyIn_ready (rs := [0, 2]) (by kernel_rfl) (by simp) (AllReadyIn.cons rfl (fun K hK => ?_) (AllReadyIn.cons rfl (fun K hK => ?_) AllReadyIn.nil))
      · go_simp
        refine hK _ _ ?_
        clear hK K
        refine wpAnyIn_ready (rs := [2]) (by kernel_rfl) (by simp) (AllReadyIn.cons rfl (fun K hK => ?_) AllReadyIn.nil)
        go_simp
        refine ⟨trivial, wide_deep, ?_⟩
        refine (callsIn_wide.2 (P1.out _ ⟨1, rfl⟩)).mono ?_
        rintro e W1 ⟨A1, c1, rfl, y1, _, y3⟩
        obtain ⟨A2, c2, W2, ra, ca, cb, cz, N3, hm⟩ := HB.out W1 y3 A1 c1 y1
        have HM := Lib.hid hm
        clear hm y1 y3
        refine hK _ _ ?_
        clear hK K
        refine wpAnyIn_ready (rs := [3]) (by kernel_rfl) (by simp) (AllReadyIn.cons rfl (fun K hK => ?_) AllReadyIn.nil)
        rw [if_pos (by rfl)]
        refine wpIn_append_byt _ (.tmp 13) (.tmp 15) _ rfl (by rfl) (by rfl) ra ?_
        refine hK _ _ ?_
        clear hK K
        simp only [Act.put, List.setIfInBounds_toArray]
        refine wpAnyIn_ready (rs := [4]) (by kernel_rfl) (by simp) (AllReadyIn.cons rfl (fun K hK => ?_) AllReadyIn.nil)
        go_simp
        refine hK _ _ ?_
        clear hK K
        refine wpAnyIn_done (by kernel_rfl) ?_ _
        exact ⟨rfl, A1, c1, A2, c2, by rfl, N3, HM.out⟩
      · go_simp
        refine ⟨trivial, wide_deep, ?_⟩
        refine (callsIn_wide.2 (P1.out _ ⟨1, rfl⟩)).mono ?_
        rintro e W1 ⟨A1, c1, rfl, y1, _, y3⟩
        obtain ⟨A2, c2, W2, ra, ca, cb, cz, N3, hm⟩ := HB.out W1 y3 A1 c1 y1
        have HM := Lib.hid hm
        clear hm y1 y3
        refine hK _ _ ?_
        clear hK K
        refine wpAnyIn_ready (rs := [0]) (by kernel_rfl) (by simp) (AllReadyIn.cons rfl (fun K hK => ?_) AllReadyIn.nil)
        go_simp
        refine hK _ _ ?_
        clear hK K
        refine wpAnyIn_ready (rs := [3]) (by kernel_rfl) (by simp) (AllReadyIn.cons rfl (fun K hK => ?_) AllReadyIn.nil)
        rw [if_pos (by rfl)]
        refine wpIn_append_byt _ (.tmp 13) (.tmp 15) _ rfl (by rfl) (by rfl) ra ?_
        refine hK _ _ ?_
        clear hK K
        simp only [Act.put, List.setIfInBounds_toArray]
        refine wpAnyIn_ready (rs := [4]) (by kernel_rfl) (by simp) (AllReadyIn.cons rfl (fun K hK => ?_) AllReadyIn.nil)
        go_simp
        refine hK _ _ ?_
        clear hK K
        refine wpAnyIn_done (by kernel_rfl) ?_ _
        exact ⟨rfl, A1, c1, A2, c2, by rfl, N3, HM.out⟩
  · rintro e a' W3 ⟨rfl, A1, c1, A2, c2, rfl, N3, m1, m2, m3, m4, m5, m6, m7⟩
    dsimp only
    have D1 := Lib.hid hd1
    have J3 := hA _ _ _ _ _ HJ.out m2 (fun i hN => (HI.out.new i hN).1) m3
    have n3 := T1.out.kept m2 (fun i hi q => by have := t2 i hi; have := HI.out.new i q; omega)
    obtain ⟨fn, tmps, assign, body, hy, hR⟩ := hY (m - 1) pre ⟨x, k.len, pw ++ x.part, d⟩ N3 W3 g A2 q c2 J3 ⟨k.vis (pw ++ x.part) (d + 1) ++ post, by rw [hvs]; simp [tvis]⟩ m1.new m1.size ⟨⟨be, A', ek, n3, t3.len, t2⟩, m5, m4, m6⟩
    have cy : W3.cell? ⟨By, 0, none⟩ = some (.func (.yield l) #[] #[]) := m1.y.cell 0
    have HR := Lib.hid hR
    have M1 := Lib.hid m1
    have M2 := Lib.hid m2
    have N3' := Lib.hid n3
    clear hR m1 m2 m3 m4 m5 m6 J3 n3
    gi_wp2_with fail
    refine ⟨wide_deep, ?_⟩
    refine HR.out.mono ?_
    rintro e W4 (⟨rfl, hJ4, hk4⟩ | ⟨rfl, hx4⟩)
    · have i4 := M1.out.kept hk4 (fun i hN q => q.2 hN)
      have n4 := N3'.out.kept hk4 (fun i hi q => by have := t2 i hi; omega)
      have up := n4.up
      have H0 := Lib.hid (nnext_any n4 0 (by omega))
      rw [next_first] at H0
      unfold kidV at H0
      obtain ⟨z0, hz0⟩ : ∃ z0, eb ek[0]? = z0 := ⟨_, rfl⟩
      obtain ⟨p0, hp0⟩ : ∃ p0, ex ek[0]? = p0 := ⟨_, rfl⟩
      rw [hz0, hp0] at H0
      have Z0 := Lib.hid hz0
      have P0 := Lib.hid hp0
      clear hz0 hp0
      have b4 : Below n₀ W W4 := (M2.out.below HI.out.size (fun i q => (HI.out.new i q).1)).trans (hk4.below M1.out.size (fun i q => q.1))
      have T3 := Lib.hid t3
      have I4 := Lib.hid i4
      have B4 := Lib.hid b4
      have J4 := Lib.hid hJ4
      have NW := Lib.hid (show ∀ W', Below n₀ W W' → Nod W' g (x.nd ek) be A' from fun W' hb => T1.out.kept (D := fun i => n₀ ≤ i) (Kept.of_below' hb) (fun i hi q => by have := t2 i hi; omega))
      have UP := Lib.hid up
      have AK := Lib.hid hK
      have LE := Lib.hid hle
      have VS := Lib.hid (show vs = pre ++ [⟨x, k.len, pw ++ x.part, d⟩] ++ k.vis (pw ++ x.part) (d + 1) ++ post by rw [hvs]; simp [tvis])
      clear i4 n4 up b4 hJ4 hk4 t3 hK hle hvs hy N3' M1 M2 HI HJ T1 P1 HB hY
      gi_wp2_with fail
      refine ⟨trivial, wide_deep, ?_⟩
      refine (callsIn_wide.2 H0.out).mono ?_
      rintro e W5 ⟨rfl, s5⟩
      have cnt : ek.length = k.len := T3.out.len
      obtain ⟨pq, hpq⟩ : ∃ pq, pw ++ x.part = pq := ⟨_, rfl⟩
      rw [hpq] at I4 VS HQ
      have rel0 : ∃ (r : Fo) (er : List Ent) (i : Nat) (done : List Vt) (N' : Nat → Prop), r.len = k.len ∧ ek.drop i = er ∧ r.Is W (· < n₀) er ∧ r.All (fun _ x k => Down l n₀ Bw By Bd J Jx vs x k) ∧
          Value.int .u8 z0 = .int .u8 (eb er.head?) ∧ Value.pointer p0 = .pointer (ex er.head?) ∧ k.vis pq (d + 1) = done ++ r.vis pq (d + 1) ∧ J (pre ++ [⟨x, k.len, pq, d⟩] ++ done) N' W5 ∧ It l n₀ Bw By Bd W5 N' pq ∧ Below n₀ W W5 := by
        refine ⟨k, ek, 0, [], N3, rfl, rfl, T3.out, AK.out, by rw [List.head?_eq_getElem?, Z0.out], by rw [List.head?_eq_getElem?, P0.out], rfl, ?_, I4.out.kept (D := fun _ => False) (Kept.still s5) (fun _ _ q => q), B4.out.trans (s5.below _)⟩
        rw [← hpq, List.append_nil]
        exact hA _ _ _ _ _ J4.out (Kept.still s5) (fun i hN => (I4.out.new i hN).1) (fun i q => .inl q)
      have R0 := Lib.hid rel0
      clear rel0 s5 H0
      have hql : pq.length = q := HQ.out
      have ewd : IntKind.i64.wrap ((d : Int) + 1) = (d : Int) + 1 := by have := D1.out; rw [IntKind.wrap_i64]; omega
      have Q1 := Lib.hid hq1
      clear hq1
      gi_wp2_with fail
      gi_loopg [9, 10] k.len (fun qn vb vk wr => ∃ (r : Fo) (er : List Ent) (i : Nat) (done : List Vt) (N' : Nat → Prop), r.len = qn ∧ ek.drop i = er ∧ r.Is W (· < n₀) er ∧ r.All (fun _ x k => Down l n₀ Bw By Bd J Jx vs x k) ∧
          vb = .int .u8 (eb er.head?) ∧ vk = .pointer (ex er.head?) ∧ k.vis pq (d + 1) = done ++ r.vis pq (d + 1) ∧ J (pre ++ [⟨x, k.len, pq, d⟩] ++ done) N' wr ∧ It l n₀ Bw By Bd wr N' pq ∧ Below n₀ W wr)
      case atStart => exact R0.out
      case round =>
        obtain ⟨r, er, i, done, N', q1, q2, q3, q4, rfl, rfl, q7, q8, q9, q10⟩ := hrel
        cases r with
        | nil =>
          obtain rfl : er = [] := q3
          have hp9 := q9
          rw [← hpq] at hp9
          obtain ⟨A6, c6, l1, l2, l3, l4, l5⟩ := It.less hp9
          rw [hpq, hql] at l1
          have rs := fun W' => slice_upto (P := Tryz.prog) Tryz.underlying23 size_u8 A6 pw.length q c6 l3 W'
          have HE := Lib.hid (show DPost l n₀ Bw By Bd J Jx (pre ++ tvis x k pw d) pw W (.returned (.bool true)) (wr.setCell ⟨Bw, 0, none⟩ (.slice A6 pw.length c6)) from by
            refine .inl ⟨rfl, N', ?_, l4, q10.trans (l5.below q9.size (fun i hN => (q9.new i hN).1))⟩
            have := hA _ _ _ _ _ q8 l5 (fun i hN => (q9.new i hN).1) (fun i q => .inl q)
            simp only [Fo.vis, List.append_nil] at q7
            rw [← q7, List.append_assoc, List.singleton_append, ← hpq] at this
            exact this)
          simp only [List.head?_nil, eb, ex]
          clear q1 q2 q4 q7 q8 q9 q10 hp9 l3 l4 l5 R0
          gi_wp2
          all_goals
            go_ret
            exact HE.out
        | cons b' x' k' r' =>
          obtain ⟨g', be', A'', ek', er', rfl, z1, z2, z3, z4⟩ := q3
          obtain ⟨hD', hDr⟩ := q4
          have he : ek[i]? = some (b', some ⟨g', 0, none⟩) := by rw [← List.head?_drop, q2]; rfl
          have hdr : ek.drop (i + 1) = er' := by rw [← List.drop_drop, q2]; rfl
          have hnx : ek[i + 1]? = er'.head? := by rw [← hdr, List.head?_drop]
          obtain ⟨A5, c5, w5, _⟩ := q9.way
          have cw5 : wr.cell? ⟨Bw, 0, none⟩ = some (.slice A5 q c5) := by rw [← hql]; exact w5.cell 0
          obtain ⟨q5, hq5⟩ : ∃ q5, (pq ++ [b']).length = q5 := ⟨_, rfl⟩
          have hq5' : q5 = q + 1 := by rw [← hq5, ← hql]; simp
          have tv : (Fo.cons b' x' k' r').vis pq (d + 1) = tvis x' k' (pq ++ [b']) (d + 1) ++ r'.vis pq (d + 1) := Fo.vis_cons _ _ _ _ _ _
          obtain ⟨A7, c7, W6, ra, ca, cb, cz, N7, m1, m2, m3, _, _, _, m7⟩ := It.more (p := [b']) (c1 := 1) q9 (by rw [hql]; exact cw5) (W1 := wr.alloc (.cells #[.int .u8 (b'.toNat : Int)] 5)) ((Below.refl _ _).alloc (Nat.le_refl _) _) ((byt_one wr 5 rfl).more (by simp)) (by rw [hql]; have := Q1.out; simp; omega) hq5
          rw [hql] at ra ca cb
          simp only [List.length_cons, List.length_nil, Nat.zero_add] at ra
          have hD := hD' (m - 1) (pre ++ [⟨x, k.len, pq, d⟩] ++ done) (r'.vis pq (d + 1) ++ post) N7 g' (pq ++ [b']) (d + 1) _ (by rw [VS.out, q7, tv]; simp [List.append_assoc]) LE.out (Tre.below (n₀ := n₀) (w := W) ⟨be', A'', ek', z1, z2, z3⟩ (fun _ q => q) (q10.trans (m2.below q9.size (fun i hN => (q9.new i hN).1)))) (hA _ _ _ _ _ q8 m2 (fun i hN => (q9.new i hN).1) m3) m1
          have b6 := q10.trans (m2.below q9.size (fun i hN => (q9.new i hN).1))
          obtain ⟨V6, hV6⟩ : ∃ V, W6.setCell ⟨Bw, 0, none⟩ (.slice A7 q5 c7) = V := ⟨_, rfl⟩
          rw [hV6] at m1 m2 m7 hD b6
          have cd6 : W6.cell? ⟨Bd, 0, none⟩ = some (.func (.func 59) #[] #[.pointer (some ⟨Bw, 0, none⟩), .pointer (some ⟨By, 0, none⟩), .pointer (some ⟨Bd, 0, none⟩)]) := by
            refine Eq.trans ?_ (m1.d.cell 0)
            rw [← hV6]
            exact (World.cell?_setCell_other _ _ _ _ (fun e => m1.ne.2.1 (by injection e))).symm
          have hne1 : ¬ Bw = Bd := m1.ne.2.1
          have HD := Lib.hid hD
          have Q5 := Lib.hid hq5'
          have Q5' := Lib.hid hq5
          clear hq5 hq5'
          rw [show ((d + 1 : Nat) : Int) = (d : Int) + 1 from rfl] at HD
          have HV := Lib.hid hV6
          have B6 := Lib.hid b6
          have TV := Lib.hid tv
          have DR := Lib.hid hDr
          have Z4 := Lib.hid z4
          have HNX := Lib.hid (show nextE ek ((b'.toNat : Int) + 1) = er'.head? from (next_after UP.out he rfl).trans hnx)
          have Q7 := Lib.hid q7
          have HDR := Lib.hid hdr
          have hcb : b'.toNat < 256 := b'.toNat_lt
          have ewb : IntKind.i64.wrap ((b'.toNat : Int) + 1) = (b'.toNat : Int) + 1 := by rw [IntKind.wrap_i64]; omega
          clear m1 m2 m3 m7 hD hV6 b6 tv hDr z1 z2 z3 z4 he hdr hnx q2 q7 q8 q9 q10 hD' R0 w5
          simp only [List.head?_cons, eb, ex]
          gi_wp2_with (first
            | (gi_at_builtin; refine wpListIn_append_eq rfl (.tmp 39) (.tmp 41) _ rfl (by rfl) (by rfl) ra ?_))
          rw [HV.out]
          refine ⟨trivial, wide_deep, ?_⟩
          refine HD.out.mono ?_
          rintro e W7 (⟨rfl, N8, y1, y2, y3⟩ | ⟨rfl, hx7⟩)
          · obtain ⟨A8, c8, l1, l2, l3, l4, l5⟩ := It.less y2
            rw [Q5'.out] at l1
            rw [hql] at l3 l4 l5
            have rs := fun W' => slice_upto (P := Tryz.prog) Tryz.underlying23 size_u8 A8 q q5 c8 l3 W'
            have ew5 : IntKind.i64.wrap ((q5 : Int) - 1) = (q : Int) := by have := Q5.out; have := Q1.out; rw [IntKind.wrap_i64]; omega
            have hq5i : ((q5 : Int) - 1) = (q : Int) := by have := Q5.out; omega
            have ewq : wrap64 (q : Int) = (q : Int) := by have := Q1.out; unfold wrap64; omega
            have b8 := (B6.out.trans y3).trans (l5.below y2.size (fun i hN => (y2.new i hN).1))
            obtain ⟨V8, hV8⟩ : ∃ V, W7.setCell ⟨Bw, 0, none⟩ (.slice A8 q c8) = V := ⟨_, rfl⟩
            rw [hV8] at l4 l5 b8
            have H9 := Lib.hid (nnext_any (NW.out V8 b8) ((b'.toNat : Int) + 1) (by omega))
            rw [HNX.out] at H9
            unfold kidV at H9
            have HV8 := Lib.hid hV8
            have J8 := Lib.hid (show J (pre ++ [⟨x, k.len, pq, d⟩] ++ done ++ tvis x' k' (pq ++ [b']) (d + 1)) N8 V8 from hA _ _ _ _ _ y1 l5 (fun i hN => (y2.new i hN).1) (fun i q => .inl q))
            have L4 := Lib.hid l4
            have B8 := Lib.hid b8
            clear y1 y2 y3 l3 l4 l5 hV8 b8 HD HV
            gi_wp2_with fail
            rw [HV8.out]
            refine ⟨trivial, wide_deep, ?_⟩
            refine (callsIn_wide.2 H9.out).mono ?_
            rintro e W9 ⟨rfl, s9⟩
            have HR9 := Lib.hid (show ∃ (r : Fo) (er : List Ent) (i : Nat) (done : List Vt) (N' : Nat → Prop), r.len = r'.len ∧ ek.drop i = er ∧ r.Is W (· < n₀) er ∧ r.All (fun _ x k => Down l n₀ Bw By Bd J Jx vs x k) ∧
                Value.int .u8 (eb er'.head?) = .int .u8 (eb er.head?) ∧ Value.pointer (ex er'.head?) = .pointer (ex er.head?) ∧ k.vis pq (d + 1) = done ++ r.vis pq (d + 1) ∧ J (pre ++ [⟨x, k.len, pq, d⟩] ++ done) N' W9 ∧ It l n₀ Bw By Bd W9 N' pq ∧ Below n₀ W W9 from by
              refine ⟨r', er', i + 1, done ++ tvis x' k' (pq ++ [b']) (d + 1), N8, rfl, HDR.out, Z4.out, DR.out, rfl, rfl, by rw [Q7.out, TV.out, List.append_assoc], ?_, L4.out.kept (D := fun _ => False) (Kept.still s9) (fun _ _ q => q), B8.out.trans (s9.below _)⟩
              rw [← List.append_assoc]
              exact hA _ _ _ _ _ J8.out (Kept.still s9) (fun i hN => (L4.out.new i hN).1) (fun i q => .inl q))
            clear s9 H9 J8 L4
            gi_wp2_with fail
            gi_roundg r'.len
            case measure => simp only [Fo.len] at q1; omega
            case rel => exact HR9.out
          · gi_wp2
            go_ret
            exact .inr ⟨rfl, hx7⟩
    · gi_wp2
      go_ret
      exact .inr ⟨rfl, hx4⟩

end

theorem kindN_pos (n : Nat) : 0 < kindN n := by unfold kindN; split <;> (try split) <;> (try split) <;> omega
theorem kindD_ne (x : Nd) : ¬ kindD x = 0 := by
  unfold kindD
  split
  · omega
  · have := kindN_pos x.es.length; omega

/-- The nodes of a tree, or of none. -/
def otvis : Option (Nn × Fo) → List Vt
  | none => []
  | some (x, k) => tvis x k [] 1
/-- A tree, or none, at a pointer. -/
def OTre (w : World) (S : Nat → Prop) : Option (Nn × Fo) → Option Addr → Prop
  | none, p => p = none
  | some (x, k), p => ∃ g, p = some ⟨g, 0, none⟩ ∧ Tre w S x k g

set_option maxRecDepth 100000 in
theorem stops_any (p : Option Addr) (w : World) : Calls Tryz.prog 42 #[.pointer p] w fun e w' => e = .returned (.func (.func 58) #[] #[.pointer (some ⟨w.heap.size, 0, none⟩)]) ∧ w' = w.alloc (.cells #[.pointer p] 27) := by
  go_enter Tryz.func42, Tryz.ntmps42
  go_wp2
  go_ret
  exact ⟨rfl, rfl⟩

set_option maxRecDepth 100000 in
set_option maxHeartbeats 1000000 in
theorem stops1_seqs {n₀ Bx : Nat} {p : Option Addr} {w : World} (t : Option (Nn × Fo)) (hn : n₀ ≤ w.heap.size) (hc : w.cell? ⟨Bx, 0, none⟩ = some (.pointer p)) (ht : OTre w (· < n₀) t p) (hle : ∀ v ∈ otvis t, v.way.length ≤ 1000000 ∧ v.deep ≤ 1000000) :
    Seqs n₀ Tryz.prog 58 #[.pointer (some ⟨Bx, 0, none⟩)] (otvis t) w := by
  intro m l J Jx W hW hnW hA hY h0
  have cb : W.cell? ⟨Bx, 0, none⟩ = some (.pointer p) := (hW.cell (p := ⟨Bx, 0, none⟩) (lt_cell hc)).trans hc
  have hbx : Bx < W.heap.size := lt_cell cb
  have tW : OTre W (· < n₀) t p := by
    cases t with
    | none => exact ht
    | some xk => obtain ⟨g, e, h⟩ := ht; exact ⟨g, e, h.below (fun _ q => q) (hW.mono hn)⟩
  obtain ⟨V, hV⟩ : ∃ V, (((W.alloc (.cells #[.func (.yield l) #[] #[]] 88)).alloc (.cells #[.slice none 0 0] 23)).alloc (.cells #[(.func (.func 59) #[] #[.pointer (some ⟨W.heap.size + 1, 0, none⟩), .pointer (some ⟨W.heap.size, 0, none⟩), .pointer (some ⟨W.heap.size + 1 + 1, 0, none⟩)])] 89)) = V := ⟨_, rfl⟩
  have kV : Kept (fun _ => False) W V := by rw [← hV]; exact Kept.of_below ((((Below.refl _ _).alloc (Nat.le_refl _) _).alloc (by simp) _).alloc (by simp; omega) _)
  have sV : V.heap.size = W.heap.size + 3 := by rw [← hV]; simp
  have bV : Below n₀ W V := kV.below hnW (fun _ q => q.elim)
  have b1 : Blk V W.heap.size #[.func (.yield l) #[] #[]] := by
    rw [← hV]
    refine Blk.below (B := W.heap.size + 1) (Blk.new W 88 #[.func (.yield l) #[] #[]]) ?_ (by omega)
    exact ((Below.refl _ _).alloc (by simp) _).alloc (by simp) _
  have b2 : Blk V (W.heap.size + 1) #[.slice none 0 0] := by
    rw [← hV]
    have := Blk.new (W.alloc (.cells #[.func (.yield l) #[] #[]] 88)) 23 #[.slice none 0 0]
    rw [World.size_alloc] at this
    exact Blk.below (B := W.heap.size + 2) this ((Below.refl _ _).alloc (by simp) _) (by omega)
  have b3 : Blk V (W.heap.size + 1 + 1) #[(.func (.func 59) #[] #[.pointer (some ⟨W.heap.size + 1, 0, none⟩), .pointer (some ⟨W.heap.size, 0, none⟩), .pointer (some ⟨W.heap.size + 1 + 1, 0, none⟩)])] := by
    rw [← hV]
    have := Blk.new ((W.alloc (.cells #[.func (.yield l) #[] #[]] 88)).alloc (.cells #[.slice none 0 0] 23)) 89 #[(.func (.func 59) #[] #[.pointer (some ⟨W.heap.size + 1, 0, none⟩), .pointer (some ⟨W.heap.size, 0, none⟩), .pointer (some ⟨W.heap.size + 1 + 1, 0, none⟩)])]
    simpa only [World.size_alloc] using this
  have cx : (((W.alloc (.cells #[.func (.yield l) #[] #[]] 88)).alloc (.cells #[.slice none 0 0] 23)).alloc (.cells #[(.func (.func 59) #[] #[.pointer (some ⟨W.heap.size + 1, 0, none⟩), .pointer (some ⟨W.heap.size, 0, none⟩), .pointer (some ⟨W.heap.size + 1 + 1, 0, none⟩)])] 89)).cell? ⟨Bx, 0, none⟩ = some (.pointer p) := by rw [hV]; exact (kV.cell (p := ⟨Bx, 0, none⟩) hbx (fun q => q)).trans cb
  have JV : J [] (fun i => i = W.heap.size ∨ i = W.heap.size + 1 ∨ i = W.heap.size + 1 + 1) V := hA _ _ _ _ _ h0 kV (fun _ q => q.elim) (fun i q => .inr (by omega))
  have iV : It l n₀ (W.heap.size + 1) W.heap.size (W.heap.size + 1 + 1) V (fun i => i = W.heap.size ∨ i = W.heap.size + 1 ∨ i = W.heap.size + 1 + 1) [] :=
    ⟨⟨none, 0, b2, Mine.nil _ _ _, fun i q => by simp [Value.ownBlock] at q⟩, b1, b3, ⟨.inr (.inl rfl), .inl rfl, .inr (.inr rfl)⟩, ⟨by omega, by omega, by omega⟩, fun i hi => by omega, by omega⟩
  have HJ := Lib.hid JV
  have HI := Lib.hid iV
  have HV := Lib.hid hV
  have HB3 := Lib.hid b3
  have cV : V.cell? ⟨Bx, 0, none⟩ = some (.pointer p) := (kV.cell (p := ⟨Bx, 0, none⟩) hbx (fun q => q)).trans cb
  have HT := Lib.hid (show OTre V (· < n₀) t p by
    cases t with
    | none => exact tW
    | some xk => obtain ⟨g, e, h⟩ := tW; exact ⟨g, e, h.below (fun _ q => q) bV⟩)
  have HA := Lib.hid hA
  have HY := Lib.hid hY
  have HLE := Lib.hid hle
  clear JV iV kV bV b1 b2 b3 tW ht hV hA hY hle
  refine callsIn_of_wp Tryz.func58 rfl trivial ?_
  simp only [Tryz.ntmps58, List.size_toArray, List.length_cons, List.length_nil, Nat.reduceAdd, Nat.reduceSub, Array.replicate_succ, Array.replicate_zero, List.push_toArray, List.append_toArray, List.nil_append, List.cons_append]
  cases t with
  | none =>
    obtain rfl : p = none := HT.out
    have HK := Lib.hid (nkind_nil V)
    gi_wp2_with fail
    rw [HV.out]
    refine ⟨trivial, wide_deep, ?_⟩
    refine (callsIn_wide.2 HK.out).mono ?_
    rintro e W1 ⟨rfl, rfl⟩
    gi_wp2
    go_end0
    exact ⟨⟨_, rfl⟩, .inl ⟨_, HJ.out⟩⟩
  | some xk =>
    obtain ⟨g, rfl, ht⟩ := HT.out
    obtain ⟨x, k⟩ := xk
    have ht' := ht
    obtain ⟨be, A, ek, t1, _, _⟩ := ht'
    have HK := Lib.hid (nkind_any t1)
    have hne := kindD_ne (x.nd ek)
    generalize kindD (x.nd ek) = kd at HK hne
    have all : ∀ f : Fo, f.All (fun _ x' k' => Down l n₀ (W.heap.size + 1) W.heap.size (W.heap.size + 1 + 1) J Jx (otvis (some (x, k))) x' k') := Fo.all_of (fun _ x' k' h => down_step HA.out HY.out x' k' h)
    have HD := Lib.hid (fun V' (hs : Still V V') => down_step HA.out HY.out x k (all k) (m - 1) [] [] _ g [] 1 V' (by simp [otvis]) HLE.out (ht.kept (D := fun _ => False) (Kept.still hs) (fun _ _ q => q)) (HA.out _ _ _ _ _ HJ.out (Kept.still hs) (fun i hN => (HI.out.new i hN).1) (fun i q => .inl q)) (HI.out.kept (D := fun _ => False) (Kept.still hs) (fun _ _ q => q)))
    clear all ht t1
    gi_wp2_with fail
    rw [HV.out]
    refine ⟨trivial, wide_deep, ?_⟩
    refine (callsIn_wide.2 HK.out).mono ?_
    rintro e W1 ⟨rfl, hs⟩
    have c1 : W1.cell? ⟨Bx, 0, none⟩ = some (.pointer (some ⟨g, 0, none⟩)) := ((Kept.still (D := fun _ => False) hs).cell (p := ⟨Bx, 0, none⟩) (by simp; omega) (fun q => q)).trans cV
    have c2 : W1.cell? ⟨W.heap.size + 1 + 1, 0, none⟩ = some (.func (.func 59) #[] #[.pointer (some ⟨W.heap.size + 1, 0, none⟩), .pointer (some ⟨W.heap.size, 0, none⟩), .pointer (some ⟨W.heap.size + 1 + 1, 0, none⟩)]) := ((Kept.still (D := fun _ => False) hs).cell (p := ⟨W.heap.size + 1 + 1, 0, none⟩) (by simp; omega) (fun q => q)).trans (HB3.out.cell 0)
    have HD1 := Lib.hid (HD.out W1 hs)
    clear HD hs HK
    gi_wp2_with fail
    refine ⟨trivial, wide_deep, ?_⟩
    refine HD1.out.mono ?_
    rintro e W2 (⟨rfl, N8, y1, _⟩ | ⟨rfl, hx7⟩)
    · have HE := Lib.hid y1
      clear y1
      gi_wp2
      go_end0
      exact ⟨⟨_, rfl⟩, .inl ⟨_, HE.out⟩⟩
    · gi_wp2
      go_end0
      exact ⟨⟨_, rfl⟩, .inr hx7⟩
end Go.Proofs.YtidiinededalmaaGreat
