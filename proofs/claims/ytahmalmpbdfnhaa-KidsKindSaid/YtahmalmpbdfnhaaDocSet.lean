/-
  The document's row: New, Drop, Set: a great struct that is handed by value, and back.
-/
import Derived.Test.YtahmalmpbdfnhaaDoc
import Derived.Test.YtahmalmpbdfnhaaSmCopy
namespace Go.Proofs.Ytahmalmpbdfnhaa
open Go.RowKit

/-- A variable of a great type. -/
theorem wpList_alloc_z {P : Program} {ops : Array Oper} {rest : List Oper} {o : Oper} {a : Act} {w : World} {Q : Exit → Act → World → Prop} (hgd : o.guard = none) (ty : TypeId) (ho : o.op = .alloc ty) (z : Array Value)
    (hz : (P.info? ty).map (·.zero) = some (some (.agg z))) (h : wpList P ops Q rest (a.put o.dst (.pointer (some ⟨w.heap.size, 0, none⟩))) (w.alloc (.cells z ty))) : wpList P ops Q (o :: rest) a w := by
  refine wpList_plain hgd fun _ hK => ?_
  obtain ⟨i, hi, h0⟩ : ∃ i, P.info? ty = some i ∧ i.zero = some (.agg z) := by
    rcases hq : P.info? ty with _ | i
    · rw [hq] at hz; cases hz
    · rw [hq] at hz; exact ⟨i, rfl, by simpa using hz⟩
  unfold Oper.wp execOp
  simp [ho, Instr.alloc, zeroValue, typeInfo, hi, h0, newVar, newRow, newObj, Value.cells]
  exact hK _ _ h

theorem wpList_build_is {P : Program} {ops : Array Oper} {rest : List Oper} {o : Oper} {a : Act} {w : World} {Q : Exit → Act → World → Prop} (hgd : o.guard = none) (t : TypeId) (parts : Array (Nat × Operand)) (ho : o.op = .build t parts)
    (ps : List (Nat × Value)) (hp : (parts.map fun (i, x) => (i, a.eval x)).toList = ps) (cells : Array Value) (hb : P.built t ps = some cells) (h : wpList P ops Q rest (a.put o.dst (.agg cells)) w) : wpList P ops Q (o :: rest) a w := by
  refine wpList_build hgd t parts ho (by rw [hp, hb]; rfl) ?_
  rw [hp, hb]
  exact h
set_option maxRecDepth 100000 in
theorem doc_und : ∃ d, Try.prog.underlying 28 = some d ∧ d.isRow = true := ⟨_, Try.underlying28, rfl⟩
theorem docA_size (room : Nat) (es : List Ent) : (docL room es).toArray.size = 513 := by rw [List.size_toArray, docL_length]
set_option maxRecDepth 100000 in
theorem doc_load {w : World} {g room : Nat} {es : List Ent} (h : Lst w g (docL room es)) : (loadVar 28 ⟨g, 0, none⟩).run Try.prog w = .ok (.agg (docL room es).toArray) w :=
  run_loadVar_mid w g 0 _ _ _ (Lst.all h) Try.underlying28 rfl (by rw [docL_length]; exact doc_size)
/-- A row is laid over another one. -/
theorem doc_over {w : World} {g room : Nat} {es : List Ent} {l : List Value} (h : Lst w g l) (hl : l.length = 513) : Lst (w.setCells g 0 (docL room es).toArray.toList) g (docL room es) := by
  have := Lst.setCells h 0 (docL room es) (by rw [docL_length, hl]; exact Nat.le_refl _)
  have e : spl l 0 (docL room es) = docL room es := by
    unfold spl
    rw [docL_length, List.drop_of_length_le (by omega)]
    simp
  rw [e] at this
  exact this
set_option maxRecDepth 100000 in
theorem doc_ret (fn : Func) {p u : Tmp} (hf : fn.results = #[.cell p 28, .tmp u]) (tmps : Array Value) {w : World} {g room : Nat} {es : List Ent} (h : Lst w g (docL room es)) (hp : tmps.getD p undef = .pointer (some ⟨g, 0, none⟩)) :
    (results fn tmps).run Try.prog w = .ok (.tuple #[.agg (docL room es).toArray, tmps.getD u undef]) w := by
  rw [results_cell_tmp hf, hp]
  simp [asAddr, Result.andThen, doc_load h]

section
variable {room : Nat} {es : List Ent}
/-- The two blocks of a call that takes a row and hands one back. -/
theorem doc_pair (w : World) : ∃ W, (w.alloc (.cells (docL room es).toArray 28)).alloc (.cells zeroL.toArray 28) = W ∧ Lst W w.heap.size (docL room es) ∧ Lst W (w.heap.size + 1) zeroL ∧ Below w.heap.size w W ∧ W.heap.size = w.heap.size + 2 := by
  refine ⟨_, rfl, (Blk.new _ _ _).alloc _, ?_, ((Below.refl _ _).alloc (Nat.le_refl _) _).alloc (by simp) _, by simp⟩
  have := Blk.new (w.alloc (.cells (docL room es).toArray 28)) 28 zeroL.toArray
  rwa [World.size_alloc] at this
/-- What is ready when a row is about to be handed back. -/
structure Bck (g : Nat) (room : Nat) (es : List Ent) (V W : World) : Prop where
  ld : V.rangeAt g 0 (docL room es)
  th_ : V.there (g + 1) 0 (docL room es).toArray.size
  ov : W = V.setCells (g + 1) 0 (docL room es).toArray.toList
  bk : Lst W (g + 1) (docL room es)
theorem Bck.of {V : World} {g : Nat} (hl : Lst V g (docL room es)) {l : List Value} (hz : Lst V (g + 1) l) (h : l.length = 513) : Bck g room es V (V.setCells (g + 1) 0 (docL room es).toArray.toList) :=
  ⟨Lst.all hl, Lst.there hz (by rw [docA_size, h]; exact Nat.le_refl _), rfl, doc_over hz h⟩
theorem back_below {w V : World} {g : Nat} (hb : Below g w V) (vs : List Value) (hs : g ≤ V.heap.size) : Below g w (V.setCells (g + 1) 0 vs) :=
  hb.trans ((Kept.setCells (fun k => k = g + 1) V (g + 1) 0 vs rfl).below hs (fun q hq => by omega))

set_option maxHeartbeats 1000000 in
set_option maxRecDepth 100000 in
theorem rdrop_any (h : Up es) (b : UInt8) (z : Int) (hz : z = (b.toNat : Int)) (w : World) : Calls Try.prog 11 #[.agg (docL room es).toArray, .int .u8 z] w fun e w' =>
    e = .returned (.tuple #[.agg (docL room (dropE es b)).toArray, .int .i64 (dropN es b)]) ∧ Below w.heap.size w w' := by
  subst hz
  obtain ⟨W, hW, hl, hzl, hb, hs⟩ := doc_pair (room := room) (es := es) w
  have hlt := b.toNat_lt
  have c1 : W.cell? ⟨w.heap.size, 1 + b.toNat, none⟩ = some (.bool (hasE es b.toNat)) := by rw [Lst.at_ hl]; exact docL_has hlt
  have c2 : W.cell? ⟨w.heap.size, 257 + b.toNat, none⟩ = some (.int .i64 (getE es b.toNat)) := by rw [Lst.at_ hl]; exact docL_val hlt
  have f1 : W.frozen? ⟨w.heap.size, 1 + b.toNat, none⟩ = false := Blk.fz hl _
  have f2 : W.frozen? ⟨w.heap.size, 257 + b.toNat, none⟩ = false := Blk.fz hl _
  have ew : IntKind.i64.wrap (b.toNat : Int) = (b.toNat : Int) := by rw [IntKind.wrap_i64]; omega
  have HW := Lib.hid hW
  have HS := Lib.hid (fun (es' : List Ent) => show (Try.prog.info? 28).map (·.size) = some (docL room es').toArray.size by rw [docA_size]; exact doc_size)
  have HS' := Lib.hid (fun (es' : List Ent) => show (Try.prog.info? 28).map (·.size) = some (docL room es').length by rw [docL_length]; exact doc_size)
  have HO := Lib.hid (fun (es' : List Ent) => all_oneCell_toArray (docL_one (room := room) (es := es')))
  cases hh : hasE es b.toNat with
  | false =>
    have e1 : dropE es b = es := by unfold dropE; rw [hh]; rfl
    have e2 : dropN es b = 6 := by unfold dropN; rw [hh]; rfl
    rw [e1, e2]
    rw [hh] at c1
    have BK := Lib.hid (Bck.of hl hzl zeroL_length)
    have HB := Lib.hid (back_below hb (docL room es).toArray.toList (by omega))
    obtain ⟨W2, hW2⟩ : ∃ W2, W2 = W.setCells (w.heap.size + 1) 0 (docL room es).toArray.toList := ⟨_, rfl⟩
    rw [← hW2] at BK HB
    have HRT := Lib.hid (fun (tmps : Array Value) (hp : tmps.getD 4 undef = .pointer (some ⟨w.heap.size + 1, 0, none⟩)) => doc_ret Try.f11 rfl tmps BK.out.bk hp)
    have HL := Lib.hid (And.intro BK.out.ld (And.intro BK.out.th_ (And.intro BK.out.ov (And.intro (HS.out es) (And.intro (HS'.out es) (HO.out es))))))
    clear hl hzl hb hs hW hW2 c2 f2 HS HS' HO BK e1 e2 hh
    generalize docL room es = L at HW HRT HL ⊢
    go_enter Try.func11, Try.ntmps11
    go_wp2_with (first
      | (refine wpList_alloc_z rfl 28 rfl zeroL.toArray doc_zero ?_; rw [HW.out])
      | (refine wpList_load_mid rfl 28 (.tmp 2) rfl w.heap.size 0 rfl L _ HL.out.1 Try.underlying28 rfl HL.out.2.2.2.2.1 ?_)
      | (refine wpList_store_mid rfl 28 (.tmp 4) (.tmp 12) rfl (w.heap.size + 1) 0 L.toArray rfl rfl HL.out.2.1 HL.out.2.2.2.1 HL.out.2.2.2.2.2 ?_; rw [← HL.out.2.2.1]))
    (try simp only [Exit.inBlock, Exit.then])
    refine bodyPost_ret (HRT.out _ (by rfl)) (by rfl) ?_
    exact ⟨rfl, HB.out⟩
  | true =>
    have e2 : dropN es b = 0 := by unfold dropN; rw [hh]; rfl
    rw [e2]
    rw [hh] at c1
    obtain ⟨V, hV⟩ : ∃ V, (W.setCell ⟨w.heap.size, 1 + b.toNat, none⟩ (.bool false)).setCell ⟨w.heap.size, 257 + b.toNat, none⟩ (.int .i64 0) = V := ⟨_, rfl⟩
    have hl' : Lst V w.heap.size (docL room (dropE es b)) := by rw [← docL_drop h, ← hV]; exact Lst.set1 (Lst.set1 hl _ _) _ _
    have kv : Kept (· = w.heap.size) W V := by rw [← hV]; exact (Kept.set_ (D := (· = w.heap.size)) W ⟨w.heap.size, 1 + b.toNat, none⟩ _ rfl).trans (Kept.set_ _ ⟨w.heap.size, 257 + b.toNat, none⟩ _ rfl)
    have hzl' : Lst V (w.heap.size + 1) zeroL := kv.blk hzl (by omega)
    have hb' : Below w.heap.size w V := hb.trans (kv.below (by omega) (fun q hq => by omega))
    have BK := Lib.hid (Bck.of hl' hzl' zeroL_length)
    have HB := Lib.hid (back_below hb' (docL room (dropE es b)).toArray.toList hb'.size)
    obtain ⟨W2, hW2⟩ : ∃ W2, W2 = V.setCells (w.heap.size + 1) 0 (docL room (dropE es b)).toArray.toList := ⟨_, rfl⟩
    rw [← hW2] at BK HB
    have HRT := Lib.hid (fun (tmps : Array Value) (hp : tmps.getD 4 undef = .pointer (some ⟨w.heap.size + 1, 0, none⟩)) => doc_ret Try.f11 rfl tmps BK.out.bk hp)
    have HL := Lib.hid (And.intro BK.out.ld (And.intro BK.out.th_ (And.intro BK.out.ov (And.intro (HS.out (dropE es b)) (And.intro (HS'.out (dropE es b)) (HO.out (dropE es b)))))))
    have HV := Lib.hid hV
    have q1 : ¬ (1 + b.toNat = 257 + b.toNat) := by omega
    clear hl hzl hb hs hW hW2 HS HS' HO BK e2 hh hl' kv hzl' hb' hV
    generalize docL room (dropE es b) = L' at HRT HL ⊢
    generalize docL room es = L at HW ⊢
    go_enter Try.func11, Try.ntmps11
    go_wp2_with (first
      | (refine wpList_alloc_z rfl 28 rfl zeroL.toArray doc_zero ?_; rw [HW.out])
      | (rw [HV.out]; refine wpList_load_mid rfl 28 (.tmp 2) rfl w.heap.size 0 rfl L' _ HL.out.1 Try.underlying28 rfl HL.out.2.2.2.2.1 ?_)
      | (refine wpList_store_mid rfl 28 (.tmp 4) (.tmp 21) rfl (w.heap.size + 1) 0 L'.toArray rfl rfl HL.out.2.1 HL.out.2.2.2.1 HL.out.2.2.2.2.2 ?_; rw [← HL.out.2.2.1]))
    (try simp only [Exit.inBlock, Exit.then])
    refine bodyPost_ret (HRT.out _ (by rfl)) (by rfl) ?_
    exact ⟨rfl, HB.out⟩
end
end Go.Proofs.Ytahmalmpbdfnhaa
