/-
  A step of layer 12's world: a node is made, copied, owned, or written to; the document's likewise.
-/
import Derived.Test.YtgelmhldicmmdaaGreatWdWrite
namespace Go.Proofs.YtgelmhldicmmdaaGreat
open Go.RowKit

/-- A great load whose guard is met. -/
theorem wpList_load_met {P : Program} {ops : Array Oper} {rest : List Oper} {op : Oper} {a : Act} {w : World} {Q : Exit → Act → World → Prop} (hw : Region.wanted op (yielded ops a.tmps) = true) (ty : TypeId) (x : Operand) (ho : op.op = .load ty x)
    (b o : Nat) (hx : a.eval x = .pointer (some ⟨b, o, none⟩)) (cs : List Value) (d : TypeDesc) (hc : w.rangeAt b o cs)
    (hu : P.underlying ty = some d) (hd : d.isRow = true) (hi : (P.info? ty).map (·.size) = some cs.length)
    (h : wpList P ops Q rest (a.put op.dst (.agg cs.toArray)) w) : wpList P ops Q (op :: rest) a w :=
  wpList_step fun _ hK => by rw [if_pos hw]; exact wp_load_mid ty x ho b o hx cs d hc hu hd hi (hK _ _ h)
/-- The world, all of whose nodes are listed and counted. -/
def Wst (fb : FB) (w0 w : World) (X : Nat) (l : List (Nat × Nd)) (ds : List (List Value)) : Prop := ∃ vl vw, Wb fb w0 w X l.length l.length l l ds vl vw ∧ Docs w0 l ds
/-- What a step leaves. -/
def StPost (fb : FB) (w0 : World) (X : Nat) (l : List (Nat × Nd)) (e : Ending) (w' : World) : Prop := e = .returned (.bool true) ∧ ∃ l' ds', Wst fb w0 w' X l' ds' ∧ l.length ≤ l'.length ∧ l'.length ≤ l.length + 1 ∧ 0 < l'.length
/-- A node was made, and counted. -/
theorem Wb.made {fb : FB} {w0 w w' : World} {X : Nat} {cnt md : Int} {l lN' : List (Nat × Nd)} {ds : List (List Value)} {vl vw : Value} (h : Wb fb w0 w X cnt md l l ds vl vw) (hn : Ns w' w0.heap.size (NX fb X vl vw) lN') (hk : Kept (fun i => some X = some i) w w') (hc : Lst w' X (.int .i64 (cnt + 1) :: [vl, vw, .int .i64 md])) :
    Wb fb w0 w' X (cnt + 1) md lN' l ds vl vw :=
  ⟨hc, h.lst.kept hk (fun i q e => by injection e with e; exact h.ne1 (e ▸ q)), h.row.kept hk (fun i q e => by injection e with e; exact h.ne2 (e ▸ q)), hn, h.below.trans (hk.below h.below.size (fun i e => by injection e with e; exact e ▸ h.lo)), h.lo, h.ne1, h.ne2, h.ne, fun g c e => ⟨hk.blk (h.fo g c e).1 (fun q => by injection q with q; exact (h.fo g c e).2.2.1 q.symm), (h.fo g c e).2⟩⟩

set_option linter.unusedSimpArgs false in
set_option maxRecDepth 100000 in
set_option maxHeartbeats 8000000 in
theorem wstep_leaf {fb : FB} {w0 w : World} {X : Nat} {l : List (Nat × Nd)} {ds : List (List Value)} (h : Wst fb w0 w X l ds) (hf : l.length ≤ 900)
    (d i j o v : Int) (b : UInt8) (A : Option Addr) (n c : Nat) (p : List UInt8) (hB : ∀ V, Below w0.heap.size w0 V → Byt V w0.heap.size A n p) (hn : n ≤ 140737488351232) (ho : 0 ≤ o ∧ o ≤ 255) (hd0 : 0 ≤ d) (hi0 : 0 ≤ i ∧ i ≤ 65535) (hj0 : 0 ≤ j ∧ j ≤ 65535) (hd9 : d % 9 = 0) :
    Calls Tryz.prog 6 #[ptrN X, .agg #[.int .u8 d, .int .u16 i, .int .u16 j, .int .u8 o, .int .u8 (b.toNat : Int), .slice A n c, .int .u64 v]] w (StPost fb w0 X l) := by
  have HFN := Lib.hid (And.intro hf (And.intro hn (And.intro hi0 hj0)))
  obtain ⟨vl, vw, h, hD⟩ := h
  obtain ⟨Wa, hWa⟩ : ∃ Wa, w.alloc (.cells #[.int .u8 d, .int .u16 i, .int .u16 j, .int .u8 o, .int .u8 (b.toNat : Int), .slice A n c, .int .u64 v] 41) = Wa := ⟨_, rfl⟩
  have ba : Below w.heap.size w Wa := by rw [← hWa]; exact (Below.refl _ _).alloc (Nat.le_refl _) _
  have sa : Wa.heap.size = w.heap.size + 1 := by rw [← hWa]; simp
  have na : Blk Wa w.heap.size #[.int .u8 d, .int .u16 i, .int .u16 j, .int .u8 o, .int .u8 (b.toNat : Int), .slice A n c, .int .u64 v] := by rw [← hWa]; exact Blk.new w _ _
  have nsb : ¬ NX fb X vl vw w.heap.size := fun q => by have := h.lt _ q; omega
  have ha := h.on ba
  obtain ⟨q, hq⟩ : ∃ q : Int, o % 4 = q := ⟨_, rfl⟩
  have hq4 : o.tmod 4 = o % 4 := Int.tmod_eq_emod_of_nonneg ho.1
  have ewq : IntKind.u64.wrap q = q := by simp [IntKind.wrap, IntKind.bits, IntKind.signed]; omega
  have hd99 : d.tmod 9 = d % 9 := Int.tmod_eq_emod_of_nonneg hd0
  have HW := Lib.hid ha
  have HN := Lib.hid na
  have HHD := Lib.hid hD
  have HDL := Lib.hid (show ds.length = l.length from hD.1)
  have HPB := Lib.hid hB
  have NSB := Lib.hid nsb
  have HXlo := Lib.hid h.lo
  have f0 : Wa.cell? ⟨w.heap.size, 0, none⟩ = some (.int .u8 d) := na.cell 0
  have f1 : Wa.cell? ⟨w.heap.size, 1, none⟩ = some (.int .u16 i) := na.cell 1
  have f3 : Wa.cell? ⟨w.heap.size, 3, none⟩ = some (.int .u8 o) := na.cell 3
  obtain ⟨L, hL⟩ : ∃ L, dnL q true A n c true v (fun _ => 0) = L := ⟨_, rfl⟩
  have HLn := Lib.hid (show Dn L by rw [← hL]; exact dn_is)
  have HDoc := Lib.hid (show DocOf w0 (l.map Prod.fst) (⟨true, q, p, v, true, []⟩ : Nd) L from ⟨A, n, c, fun _ => 0, hL.symm, hB, KR.none_ _⟩)
  have HBl := Lib.hid (show ((((Tryz.zeroCells59.setIfInBounds 0 (Value.int IntKind.u64 q)).setIfInBounds 1 (Value.bool true)).setIfInBounds 2 (Value.slice A n c)).setIfInBounds 3 (Value.bool true)).setIfInBounds 4 (Value.int IntKind.u64 v) = L.toArray by rw [← hL]; kernel_rfl)
  have HW1 := Lib.hid (show Wb fb w0 Wa.drew X l.length l.length l l ds vl vw from ha.on (Below.refl _ _).drew)
  have HN1 := Lib.hid (show Blk Wa.drew w.heap.size #[.int .u8 d, .int .u16 i, .int .u16 j, .int .u8 o, .int .u8 (b.toNat : Int), .slice A n c, .int .u64 v] from na)
  have C1 := Lib.hid (HW1.out.nd.leaf_ HW1.out.below.size HW1.out.lt (some X) (l.length : Int) q v n c w0.heap.size p (mt_of HW1.out.blk (by omega) (by omega)) (fun i e => by injection e with e; exact .inr (.inl e.symm)) (hB _ (ha.below.trans ((Below.refl _ _).drew.mono ha.below.size))) HW1.out.below.size (by omega) (fun i hi e => by injection e with e; have := (hB _ ha.below).1; have := Byt.ltPb (show Byt Wa w0.heap.size A p.length p by rw [(hB _ ha.below).1]; exact hB _ ha.below) hi; have := h.lo; omega))
  rw [show mtr (some X) = ptrN X from rfl] at C1
  have HS := Lib.hid (fun (V : World) (q : Blk V w.heap.size #[.int .u8 d, .int .u16 i, .int .u16 j, .int .u8 o, .int .u8 (b.toNat : Int), .slice A n c, .int .u64 v]) => show V.cell? ⟨w.heap.size, 5, none⟩ = some (.slice A n c) ∧ V.cell? ⟨w.heap.size, 6, none⟩ = some (.int .u64 v) from ⟨q.cell 5, q.cell 6⟩)
  clear hL hB ba sa na nsb ha hD h HW HN
  go_enter Tryz.func6, Tryz.ntmps6
  go_upto_region 3 with fail
  try rw [hWa]
  clear hWa
  refine wp_region_held_drew (S := (fun w' => w'.cell? ⟨w.heap.size, 5, none⟩ = some (.slice A n c) ∧ w'.cell? ⟨w.heap.size, 6, none⟩ = some (.int .u64 v))) (by kernel_rfl) (HS.out _ HN1.out) (fun hHeld => ?_)
  refine wpAnyH_take (i := 0) (oi := { dst := some 16, op := Op.move (Operand.tmp 0), type := 25, pos := "law.go:83", after := #[], guard := none }) (v := ?v1) rfl (by kernel_rfl) (by kernel_rfl) (by kernel_rfl) (fun _ _ _ h => h) (Or.inl ⟨by rfl, ?hy1⟩) hHeld ?rest1
  case hy1 => (intro w' hSw; (try dsimp only at hSw); go_simp; (try with_reducible rfl))
  try simp only [Act.put, List.setIfInBounds_toArray, List.set_cons_zero, List.set_cons_succ]
  refine wpAnyH_take (i := 1) (oi := { dst := some 17, op := Op.move (Operand.tmp 0), type := 25, pos := "law.go:83", after := #[], guard := none }) (v := ?v2) rfl (by kernel_rfl) (by kernel_rfl) (by kernel_rfl) (fun _ _ _ h => h) (Or.inl ⟨by rfl, ?hy2⟩) hHeld ?rest2
  case hy2 => (intro w' hSw; (try dsimp only at hSw); go_simp; (try with_reducible rfl))
  try simp only [Act.put, List.setIfInBounds_toArray, List.set_cons_zero, List.set_cons_succ]
  refine wpAnyH_take (i := 2) (oi := { dst := some 18, op := Op.nilCheck (Operand.tmp 17), type := 0, pos := "law.go:83", after := #[{ on := 1, ground := Ground.data }], guard := none }) (v := ?v3) rfl (by kernel_rfl) (by kernel_rfl) (by kernel_rfl) (fun _ _ _ h => h) (Or.inl ⟨by rfl, ?hy3⟩) hHeld ?rest3
  case hy3 => (intro w' hSw; (try dsimp only at hSw); go_simp; (try with_reducible rfl))
  try simp only [Act.put, List.setIfInBounds_toArray, List.set_cons_zero, List.set_cons_succ]
  refine wpAnyH_take (i := 3) (oi := { dst := some 19, op := Op.fieldAddr 36 (Operand.tmp 18) 0, type := 0, pos := "law.go:83", after := #[{ on := 2, ground := Ground.data }], guard := none }) (v := ?v4) rfl (by kernel_rfl) (by kernel_rfl) (by kernel_rfl) (fun _ _ _ h => h) (Or.inl ⟨by rfl, ?hy4⟩) hHeld ?rest4
  case hy4 => (intro w' hSw; (try dsimp only at hSw); go_simp; (try with_reducible rfl))
  try simp only [Act.put, List.setIfInBounds_toArray, List.set_cons_zero, List.set_cons_succ]
  refine wpAnyH_take (i := 4) (oi := { dst := some 20, op := Op.move (Operand.tmp 5), type := 39, pos := "law.go:83", after := #[], guard := none }) (v := ?v5) rfl (by kernel_rfl) (by kernel_rfl) (by kernel_rfl) (fun _ _ _ h => h) (Or.inl ⟨by rfl, ?hy5⟩) hHeld ?rest5
  case hy5 => (intro w' hSw; (try dsimp only at hSw); go_simp; (try with_reducible rfl))
  try simp only [Act.put, List.setIfInBounds_toArray, List.set_cons_zero, List.set_cons_succ]
  refine wpAnyH_take (i := 5) (oi := { dst := some 21, op := Op.fieldAddr 41 (Operand.tmp 3) 5, type := 0, pos := "law.go:83", after := #[], guard := none }) (v := ?v6) rfl (by kernel_rfl) (by kernel_rfl) (by kernel_rfl) (fun _ _ _ h => h) (Or.inl ⟨by rfl, ?hy6⟩) hHeld ?rest6
  case hy6 => (intro w' hSw; (try dsimp only at hSw); go_simp; (try with_reducible rfl))
  try simp only [Act.put, List.setIfInBounds_toArray, List.set_cons_zero, List.set_cons_succ]
  refine wpAnyH_take (i := 6) (oi := { dst := some 22, op := Op.load 38 (Operand.tmp 21), type := 38, pos := "law.go:83", after := #[{ on := 5, ground := Ground.data }], guard := none }) (v := ?v7) rfl (by kernel_rfl) (by kernel_rfl) (by kernel_rfl) (fun _ _ _ h => h) (Or.inl ⟨by rfl, ?hy7⟩) hHeld ?rest7
  case hy7 => (intro w' hSw; (try dsimp only at hSw); go_simp; (try with_reducible rfl))
  try simp only [Act.put, List.setIfInBounds_toArray, List.set_cons_zero, List.set_cons_succ]
  refine wpAnyH_take (i := 7) (oi := { dst := some 23, op := Op.fieldAddr 41 (Operand.tmp 3) 6, type := 0, pos := "law.go:83", after := #[], guard := none }) (v := ?v8) rfl (by kernel_rfl) (by kernel_rfl) (by kernel_rfl) (fun _ _ _ h => h) (Or.inl ⟨by rfl, ?hy8⟩) hHeld ?rest8
  case hy8 => (intro w' hSw; (try dsimp only at hSw); go_simp; (try with_reducible rfl))
  try simp only [Act.put, List.setIfInBounds_toArray, List.set_cons_zero, List.set_cons_succ]
  refine wpAnyH_take (i := 8) (oi := { dst := some 24, op := Op.load 39 (Operand.tmp 23), type := 39, pos := "law.go:83", after := #[{ on := 7, ground := Ground.data }], guard := none }) (v := ?v9) rfl (by kernel_rfl) (by kernel_rfl) (by kernel_rfl) (fun _ _ _ h => h) (Or.inl ⟨by rfl, ?hy9⟩) hHeld ?rest9
  case hy9 => (intro w' hSw; (try dsimp only at hSw); go_simp; (try with_reducible rfl))
  try simp only [Act.put, List.setIfInBounds_toArray, List.set_cons_zero, List.set_cons_succ]
  refine wpAnyH_take (i := 10) (oi := { dst := some 26, op := Op.move (Operand.tmp 5), type := 39, pos := "law.go:83", after := #[], guard := none }) (v := ?v10) rfl (by kernel_rfl) (by kernel_rfl) (by kernel_rfl) (fun _ _ _ h => h) (Or.inl ⟨by rfl, ?hy10⟩) hHeld ?rest10
  case hy10 => (intro w' hSw; (try dsimp only at hSw); go_simp; (try with_reducible rfl))
  try simp only [Act.put, List.setIfInBounds_toArray, List.set_cons_zero, List.set_cons_succ]
  refine wpAnyH_take (i := 11) (oi := { dst := some 27, op := Op.fieldAddr 41 (Operand.tmp 3) 5, type := 0, pos := "law.go:83", after := #[], guard := none }) (v := ?v11) rfl (by kernel_rfl) (by kernel_rfl) (by kernel_rfl) (fun _ _ _ h => h) (Or.inl ⟨by rfl, ?hy11⟩) hHeld ?rest11
  case hy11 => (intro w' hSw; (try dsimp only at hSw); go_simp; (try with_reducible rfl))
  try simp only [Act.put, List.setIfInBounds_toArray, List.set_cons_zero, List.set_cons_succ]
  refine wpAnyH_take (i := 12) (oi := { dst := some 28, op := Op.load 38 (Operand.tmp 27), type := 38, pos := "law.go:83", after := #[{ on := 11, ground := Ground.data }], guard := none }) (v := ?v12) rfl (by kernel_rfl) (by kernel_rfl) (by kernel_rfl) (fun _ _ _ h => h) (Or.inl ⟨by rfl, ?hy12⟩) hHeld ?rest12
  case hy12 => (intro w' hSw; (try dsimp only at hSw); go_simp; (try with_reducible rfl))
  try simp only [Act.put, List.setIfInBounds_toArray, List.set_cons_zero, List.set_cons_succ]
  refine wpAnyH_take (i := 13) (oi := { dst := some 29, op := Op.fieldAddr 41 (Operand.tmp 3) 6, type := 0, pos := "law.go:83", after := #[], guard := none }) (v := ?v13) rfl (by kernel_rfl) (by kernel_rfl) (by kernel_rfl) (fun _ _ _ h => h) (Or.inl ⟨by rfl, ?hy13⟩) hHeld ?rest13
  case hy13 => (intro w' hSw; (try dsimp only at hSw); go_simp; (try with_reducible rfl))
  try simp only [Act.put, List.setIfInBounds_toArray, List.set_cons_zero, List.set_cons_succ]
  refine wpAnyH_take (i := 14) (oi := { dst := some 30, op := Op.load 39 (Operand.tmp 29), type := 39, pos := "law.go:83", after := #[{ on := 13, ground := Ground.data }], guard := none }) (v := ?v14) rfl (by kernel_rfl) (by kernel_rfl) (by kernel_rfl) (fun _ _ _ h => h) (Or.inl ⟨by rfl, ?hy14⟩) hHeld ?rest14
  case hy14 => (intro w' hSw; (try dsimp only at hSw); go_simp; (try with_reducible rfl))
  try simp only [Act.put, List.setIfInBounds_toArray, List.set_cons_zero, List.set_cons_succ]
  refine wpAnyH_take (i := 15) (oi := { dst := some 31, op := Op.build 59 #[(0, Operand.tmp 26), (1, Operand.const (Value.bool true)), (2, Operand.tmp 28), (3, Operand.const (Value.bool true)), (4, Operand.tmp 30)], type := 59, pos := "law.go:83", after := #[{ on := 10, ground := Ground.data }, { on := 12, ground := Ground.data }, { on := 14, ground := Ground.data }], guard := none }) (v := .agg L.toArray) rfl (by kernel_rfl) (by kernel_rfl) (by kernel_rfl) (fun _ _ _ h => h) (Or.inl ⟨by rfl, ?hyV⟩) hHeld ?_
  case hyV => (intro w' hSw; (try dsimp only at hSw); go_simp; (try exact HBl.out))
  try simp only [Act.put, List.setIfInBounds_toArray, List.set_cons_zero, List.set_cons_succ]
  refine wpAnyH_ready (rs := [9]) (by kernel_rfl) (by simp) (AllReadyH.cons (o := { dst := some 25, op := Op.call { callee := Callee.value (Operand.func 10), args := #[Operand.tmp 19, Operand.tmp 20, Operand.tmp 22, Operand.tmp 24], argTypes := #[48, 39, 38, 39] }, type := 46, pos := "law.go:83", after := #[{ on := 3, ground := Ground.data }, { on := 4, ground := Ground.data }, { on := 6, ground := Ground.data }, { on := 8, ground := Ground.data }], guard := none }) rfl (fun K hK => ?_) AllReadyH.nil)
  go_simp
  (with_reducible refine C1.out.mono ?_)
  rintro e w2 ⟨g, rfl, nn, kk, cc⟩
  have HM2 := Lib.hid (HW1.out.made nn kk (cc _ rfl))
  have HB2 := Lib.hid (kk.blk HN1.out (fun e => by injection e with e; exact NSB.out (.inl e.symm)))
  clear nn kk cc C1
  go_wp2_with fail
  refine hK.out _ _ (HS.out _ HB2.out) (fun hHeld' => ?_)
  clear hK K hHeld
  have hHeld := hHeld'
  clear hHeld'
  try simp only [Act.put, List.setIfInBounds_toArray, List.set_cons_zero, List.set_cons_succ]
  refine wpAnyH_ready (rs := [16]) (by kernel_rfl) (by simp) (AllReadyH.cons (o := { dst := some 32, op := Op.call { callee := Callee.value (Operand.func 17), args := #[Operand.tmp 16, Operand.tmp 25, Operand.tmp 31], argTypes := #[25, 46, 59] }, type := 4, pos := "law.go:83", after := #[{ on := 0, ground := Ground.data }, { on := 9, ground := Ground.data }, { on := 15, ground := Ground.data }, { on := 9, ground := Ground.chain }], guard := none }) rfl (fun K hK => ?_) AllReadyH.nil)
  go_simp
  (with_reducible refine (wfresh_any HM2.out L HLn.out (by omega) (by omega) (by have := HDL.out; omega)).mono ?_)
  rintro e w3 ⟨rfl, vl', vw', hb', kf⟩
  have HB3 := Lib.hid (kf.blk HB2.out NSB.out)
  have HE := Lib.hid (show StPost fb w0 X l (.returned (.bool true)) w3 from ⟨rfl, l ++ [(g, (⟨true, q, p, v, true, []⟩ : Nd))], ds ++ [L], ⟨vl', vw', by simpa using hb', HHD.out.more HDoc.out⟩, by simp, by simp, by simp⟩)
  clear hb' kf
  go_wp2_with fail
  refine hK.out _ _ (HS.out _ HB3.out) (fun hHeld' => ?_)
  clear hK K hHeld
  have hHeld := hHeld'
  clear hHeld'
  try simp only [Act.put, List.setIfInBounds_toArray, List.set_cons_zero, List.set_cons_succ]
  refine wpAnyH_take (i := 17) (oi := { dst := some 4, op := Op.assign (Operand.tmp 32), type := 4, pos := "law.go:83", after := #[{ on := 16, ground := Ground.data }, { on := 16, ground := Ground.chain }, { on := 0, ground := Ground.phase }, { on := 1, ground := Ground.phase }, { on := 2, ground := Ground.phase }, { on := 3, ground := Ground.phase }, { on := 4, ground := Ground.phase }, { on := 5, ground := Ground.phase }, { on := 6, ground := Ground.phase }, { on := 7, ground := Ground.phase }, { on := 8, ground := Ground.phase }, { on := 9, ground := Ground.phase }, { on := 10, ground := Ground.phase }, { on := 11, ground := Ground.phase }, { on := 12, ground := Ground.phase }, { on := 13, ground := Ground.phase }, { on := 14, ground := Ground.phase }, { on := 15, ground := Ground.phase }, { on := 16, ground := Ground.phase }], guard := none }) (v := ?v15) rfl (by kernel_rfl) (by kernel_rfl) (by kernel_rfl) (fun _ _ _ h => h) (Or.inl ⟨by rfl, ?hy15⟩) hHeld ?rest15
  case hy15 => (intro w' hSw; (try dsimp only at hSw); go_simp; (try with_reducible rfl))
  try simp only [Act.put, List.setIfInBounds_toArray, List.set_cons_zero, List.set_cons_succ]
  refine wpAnyH_done (by kernel_rfl) ?_ _
  go_wp2
  go_ret
  exact HE.out

set_option linter.unusedSimpArgs false in
set_option maxRecDepth 100000 in
set_option maxHeartbeats 8000000 in
theorem wstep_inner {fb : FB} {w0 w : World} {X : Nat} {l : List (Nat × Nd)} {ds : List (List Value)} (h : Wst fb w0 w X l ds) (hf : l.length ≤ 900)
    (d i j o v : Int) (b : UInt8) (A : Option Addr) (n c : Nat) (p : List UInt8) (hB : ∀ V, Below w0.heap.size w0 V → Byt V w0.heap.size A n p) (hn : n ≤ 140737488351232) (ho : 0 ≤ o ∧ o ≤ 255) (hd0 : 0 ≤ d) (hi0 : 0 ≤ i ∧ i ≤ 65535) (hj0 : 0 ≤ j ∧ j ≤ 65535) (hd9 : d % 9 = 1) :
    Calls Tryz.prog 6 #[ptrN X, .agg #[.int .u8 d, .int .u16 i, .int .u16 j, .int .u8 o, .int .u8 (b.toNat : Int), .slice A n c, .int .u64 v]] w (StPost fb w0 X l) := by
  have HFN := Lib.hid (And.intro hf (And.intro hn (And.intro hi0 hj0)))
  obtain ⟨vl, vw, h, hD⟩ := h
  obtain ⟨Wa, hWa⟩ : ∃ Wa, w.alloc (.cells #[.int .u8 d, .int .u16 i, .int .u16 j, .int .u8 o, .int .u8 (b.toNat : Int), .slice A n c, .int .u64 v] 41) = Wa := ⟨_, rfl⟩
  have ba : Below w.heap.size w Wa := by rw [← hWa]; exact (Below.refl _ _).alloc (Nat.le_refl _) _
  have sa : Wa.heap.size = w.heap.size + 1 := by rw [← hWa]; simp
  have na : Blk Wa w.heap.size #[.int .u8 d, .int .u16 i, .int .u16 j, .int .u8 o, .int .u8 (b.toNat : Int), .slice A n c, .int .u64 v] := by rw [← hWa]; exact Blk.new w _ _
  have nsb : ¬ NX fb X vl vw w.heap.size := fun q => by have := h.lt _ q; omega
  have ha := h.on ba
  obtain ⟨q, hq⟩ : ∃ q : Int, o % 4 = q := ⟨_, rfl⟩
  have hq4 : o.tmod 4 = o % 4 := Int.tmod_eq_emod_of_nonneg ho.1
  have ewq : IntKind.u64.wrap q = q := by simp [IntKind.wrap, IntKind.bits, IntKind.signed]; omega
  have hd99 : d.tmod 9 = d % 9 := Int.tmod_eq_emod_of_nonneg hd0
  have HW := Lib.hid ha
  have HN := Lib.hid na
  have HHD := Lib.hid hD
  have HDL := Lib.hid (show ds.length = l.length from hD.1)
  have HPB := Lib.hid hB
  have NSB := Lib.hid nsb
  have HXlo := Lib.hid h.lo
  have f0 : Wa.cell? ⟨w.heap.size, 0, none⟩ = some (.int .u8 d) := na.cell 0
  have f1 : Wa.cell? ⟨w.heap.size, 1, none⟩ = some (.int .u16 i) := na.cell 1
  have f3 : Wa.cell? ⟨w.heap.size, 3, none⟩ = some (.int .u8 o) := na.cell 3
  obtain ⟨L, hL⟩ : ∃ L, dnL q false A n c false 0 (fun _ => 0) = L := ⟨_, rfl⟩
  have HLn := Lib.hid (show Dn L by rw [← hL]; exact dn_is)
  have HDoc := Lib.hid (show DocOf w0 (l.map Prod.fst) (⟨false, q, p, 0, false, []⟩ : Nd) L from ⟨A, n, c, fun _ => 0, hL.symm, hB, KR.none_ _⟩)
  have HBl := Lib.hid (show (Tryz.zeroCells59.setIfInBounds 0 (Value.int IntKind.u64 q)).setIfInBounds 2 (Value.slice A n c) = L.toArray by rw [← hL]; kernel_rfl)
  have HW1 := Lib.hid (show Wb fb w0 Wa.drew X l.length l.length l l ds vl vw from ha.on (Below.refl _ _).drew)
  have HN1 := Lib.hid (show Blk Wa.drew w.heap.size #[.int .u8 d, .int .u16 i, .int .u16 j, .int .u8 o, .int .u8 (b.toNat : Int), .slice A n c, .int .u64 v] from na)
  have C1 := Lib.hid (HW1.out.nd.inner_ HW1.out.below.size HW1.out.lt (some X) (l.length : Int) q n c w0.heap.size p (mt_of HW1.out.blk (by omega) (by omega)) (fun i e => by injection e with e; exact .inr (.inl e.symm)) (hB _ (ha.below.trans ((Below.refl _ _).drew.mono ha.below.size))) HW1.out.below.size (by omega) (fun i hi e => by injection e with e; have := (hB _ ha.below).1; have := Byt.ltPb (show Byt Wa w0.heap.size A p.length p by rw [(hB _ ha.below).1]; exact hB _ ha.below) hi; have := h.lo; omega))
  rw [show mtr (some X) = ptrN X from rfl] at C1
  have HS := Lib.hid (fun (V : World) (q : Blk V w.heap.size #[.int .u8 d, .int .u16 i, .int .u16 j, .int .u8 o, .int .u8 (b.toNat : Int), .slice A n c, .int .u64 v]) => show V.cell? ⟨w.heap.size, 5, none⟩ = some (.slice A n c) ∧ V.cell? ⟨w.heap.size, 6, none⟩ = some (.int .u64 v) from ⟨q.cell 5, q.cell 6⟩)
  clear hL hB ba sa na nsb ha hD h HW HN
  go_enter Tryz.func6, Tryz.ntmps6
  go_upto_region 5 with fail
  try rw [hWa]
  clear hWa
  refine wp_region_held_drew (S := (fun w' => w'.cell? ⟨w.heap.size, 5, none⟩ = some (.slice A n c) ∧ w'.cell? ⟨w.heap.size, 6, none⟩ = some (.int .u64 v))) (by kernel_rfl) (HS.out _ HN1.out) (fun hHeld => ?_)
  refine wpAnyH_take (i := 0) (oi := { dst := some 45, op := Op.move (Operand.tmp 0), type := 25, pos := "law.go:86", after := #[], guard := none }) (v := ?v16) rfl (by kernel_rfl) (by kernel_rfl) (by kernel_rfl) (fun _ _ _ h => h) (Or.inl ⟨by rfl, ?hy16⟩) hHeld ?rest16
  case hy16 => (intro w' hSw; (try dsimp only at hSw); go_simp; (try with_reducible rfl))
  try simp only [Act.put, List.setIfInBounds_toArray, List.set_cons_zero, List.set_cons_succ]
  refine wpAnyH_take (i := 1) (oi := { dst := some 46, op := Op.move (Operand.tmp 0), type := 25, pos := "law.go:86", after := #[], guard := none }) (v := ?v17) rfl (by kernel_rfl) (by kernel_rfl) (by kernel_rfl) (fun _ _ _ h => h) (Or.inl ⟨by rfl, ?hy17⟩) hHeld ?rest17
  case hy17 => (intro w' hSw; (try dsimp only at hSw); go_simp; (try with_reducible rfl))
  try simp only [Act.put, List.setIfInBounds_toArray, List.set_cons_zero, List.set_cons_succ]
  refine wpAnyH_take (i := 2) (oi := { dst := some 47, op := Op.nilCheck (Operand.tmp 46), type := 0, pos := "law.go:86", after := #[{ on := 1, ground := Ground.data }], guard := none }) (v := ?v18) rfl (by kernel_rfl) (by kernel_rfl) (by kernel_rfl) (fun _ _ _ h => h) (Or.inl ⟨by rfl, ?hy18⟩) hHeld ?rest18
  case hy18 => (intro w' hSw; (try dsimp only at hSw); go_simp; (try with_reducible rfl))
  try simp only [Act.put, List.setIfInBounds_toArray, List.set_cons_zero, List.set_cons_succ]
  refine wpAnyH_take (i := 3) (oi := { dst := some 48, op := Op.fieldAddr 36 (Operand.tmp 47) 0, type := 0, pos := "law.go:86", after := #[{ on := 2, ground := Ground.data }], guard := none }) (v := ?v19) rfl (by kernel_rfl) (by kernel_rfl) (by kernel_rfl) (fun _ _ _ h => h) (Or.inl ⟨by rfl, ?hy19⟩) hHeld ?rest19
  case hy19 => (intro w' hSw; (try dsimp only at hSw); go_simp; (try with_reducible rfl))
  try simp only [Act.put, List.setIfInBounds_toArray, List.set_cons_zero, List.set_cons_succ]
  refine wpAnyH_take (i := 4) (oi := { dst := some 49, op := Op.move (Operand.tmp 5), type := 39, pos := "law.go:86", after := #[], guard := none }) (v := ?v20) rfl (by kernel_rfl) (by kernel_rfl) (by kernel_rfl) (fun _ _ _ h => h) (Or.inl ⟨by rfl, ?hy20⟩) hHeld ?rest20
  case hy20 => (intro w' hSw; (try dsimp only at hSw); go_simp; (try with_reducible rfl))
  try simp only [Act.put, List.setIfInBounds_toArray, List.set_cons_zero, List.set_cons_succ]
  refine wpAnyH_take (i := 5) (oi := { dst := some 50, op := Op.fieldAddr 41 (Operand.tmp 3) 5, type := 0, pos := "law.go:86", after := #[], guard := none }) (v := ?v21) rfl (by kernel_rfl) (by kernel_rfl) (by kernel_rfl) (fun _ _ _ h => h) (Or.inl ⟨by rfl, ?hy21⟩) hHeld ?rest21
  case hy21 => (intro w' hSw; (try dsimp only at hSw); go_simp; (try with_reducible rfl))
  try simp only [Act.put, List.setIfInBounds_toArray, List.set_cons_zero, List.set_cons_succ]
  refine wpAnyH_take (i := 6) (oi := { dst := some 51, op := Op.load 38 (Operand.tmp 50), type := 38, pos := "law.go:86", after := #[{ on := 5, ground := Ground.data }], guard := none }) (v := ?v22) rfl (by kernel_rfl) (by kernel_rfl) (by kernel_rfl) (fun _ _ _ h => h) (Or.inl ⟨by rfl, ?hy22⟩) hHeld ?rest22
  case hy22 => (intro w' hSw; (try dsimp only at hSw); go_simp; (try with_reducible rfl))
  try simp only [Act.put, List.setIfInBounds_toArray, List.set_cons_zero, List.set_cons_succ]
  refine wpAnyH_take (i := 8) (oi := { dst := some 53, op := Op.move (Operand.tmp 5), type := 39, pos := "law.go:86", after := #[], guard := none }) (v := ?v23) rfl (by kernel_rfl) (by kernel_rfl) (by kernel_rfl) (fun _ _ _ h => h) (Or.inl ⟨by rfl, ?hy23⟩) hHeld ?rest23
  case hy23 => (intro w' hSw; (try dsimp only at hSw); go_simp; (try with_reducible rfl))
  try simp only [Act.put, List.setIfInBounds_toArray, List.set_cons_zero, List.set_cons_succ]
  refine wpAnyH_take (i := 9) (oi := { dst := some 54, op := Op.fieldAddr 41 (Operand.tmp 3) 5, type := 0, pos := "law.go:86", after := #[], guard := none }) (v := ?v24) rfl (by kernel_rfl) (by kernel_rfl) (by kernel_rfl) (fun _ _ _ h => h) (Or.inl ⟨by rfl, ?hy24⟩) hHeld ?rest24
  case hy24 => (intro w' hSw; (try dsimp only at hSw); go_simp; (try with_reducible rfl))
  try simp only [Act.put, List.setIfInBounds_toArray, List.set_cons_zero, List.set_cons_succ]
  refine wpAnyH_take (i := 10) (oi := { dst := some 55, op := Op.load 38 (Operand.tmp 54), type := 38, pos := "law.go:86", after := #[{ on := 9, ground := Ground.data }], guard := none }) (v := ?v25) rfl (by kernel_rfl) (by kernel_rfl) (by kernel_rfl) (fun _ _ _ h => h) (Or.inl ⟨by rfl, ?hy25⟩) hHeld ?rest25
  case hy25 => (intro w' hSw; (try dsimp only at hSw); go_simp; (try with_reducible rfl))
  try simp only [Act.put, List.setIfInBounds_toArray, List.set_cons_zero, List.set_cons_succ]
  refine wpAnyH_take (i := 11) (oi := { dst := some 56, op := Op.build 59 #[(0, Operand.tmp 53), (2, Operand.tmp 55)], type := 59, pos := "law.go:86", after := #[{ on := 8, ground := Ground.data }, { on := 10, ground := Ground.data }], guard := none }) (v := .agg L.toArray) rfl (by kernel_rfl) (by kernel_rfl) (by kernel_rfl) (fun _ _ _ h => h) (Or.inl ⟨by rfl, ?hyV⟩) hHeld ?_
  case hyV => (intro w' hSw; (try dsimp only at hSw); go_simp; (try exact HBl.out))
  try simp only [Act.put, List.setIfInBounds_toArray, List.set_cons_zero, List.set_cons_succ]
  refine wpAnyH_ready (rs := [7]) (by kernel_rfl) (by simp) (AllReadyH.cons (o := { dst := some 52, op := Op.call { callee := Callee.value (Operand.func 9), args := #[Operand.tmp 48, Operand.tmp 49, Operand.tmp 51], argTypes := #[48, 39, 38] }, type := 46, pos := "law.go:86", after := #[{ on := 3, ground := Ground.data }, { on := 4, ground := Ground.data }, { on := 6, ground := Ground.data }], guard := none }) rfl (fun K hK => ?_) AllReadyH.nil)
  go_simp
  (with_reducible refine C1.out.mono ?_)
  rintro e w2 ⟨g, rfl, nn, kk, cc⟩
  have HM2 := Lib.hid (HW1.out.made nn kk (cc _ rfl))
  have HB2 := Lib.hid (kk.blk HN1.out (fun e => by injection e with e; exact NSB.out (.inl e.symm)))
  clear nn kk cc C1
  go_wp2_with fail
  refine hK.out _ _ (HS.out _ HB2.out) (fun hHeld' => ?_)
  clear hK K hHeld
  have hHeld := hHeld'
  clear hHeld'
  try simp only [Act.put, List.setIfInBounds_toArray, List.set_cons_zero, List.set_cons_succ]
  refine wpAnyH_ready (rs := [12]) (by kernel_rfl) (by simp) (AllReadyH.cons (o := { dst := some 57, op := Op.call { callee := Callee.value (Operand.func 17), args := #[Operand.tmp 45, Operand.tmp 52, Operand.tmp 56], argTypes := #[25, 46, 59] }, type := 4, pos := "law.go:86", after := #[{ on := 0, ground := Ground.data }, { on := 7, ground := Ground.data }, { on := 11, ground := Ground.data }, { on := 7, ground := Ground.chain }], guard := none }) rfl (fun K hK => ?_) AllReadyH.nil)
  go_simp
  (with_reducible refine (wfresh_any HM2.out L HLn.out (by omega) (by omega) (by have := HDL.out; omega)).mono ?_)
  rintro e w3 ⟨rfl, vl', vw', hb', kf⟩
  have HB3 := Lib.hid (kf.blk HB2.out NSB.out)
  have HE := Lib.hid (show StPost fb w0 X l (.returned (.bool true)) w3 from ⟨rfl, l ++ [(g, (⟨false, q, p, 0, false, []⟩ : Nd))], ds ++ [L], ⟨vl', vw', by simpa using hb', HHD.out.more HDoc.out⟩, by simp, by simp, by simp⟩)
  clear hb' kf
  go_wp2_with fail
  refine hK.out _ _ (HS.out _ HB3.out) (fun hHeld' => ?_)
  clear hK K hHeld
  have hHeld := hHeld'
  clear hHeld'
  try simp only [Act.put, List.setIfInBounds_toArray, List.set_cons_zero, List.set_cons_succ]
  refine wpAnyH_take (i := 13) (oi := { dst := some 4, op := Op.assign (Operand.tmp 57), type := 4, pos := "law.go:86", after := #[{ on := 12, ground := Ground.data }, { on := 12, ground := Ground.chain }, { on := 0, ground := Ground.phase }, { on := 1, ground := Ground.phase }, { on := 2, ground := Ground.phase }, { on := 3, ground := Ground.phase }, { on := 4, ground := Ground.phase }, { on := 5, ground := Ground.phase }, { on := 6, ground := Ground.phase }, { on := 7, ground := Ground.phase }, { on := 8, ground := Ground.phase }, { on := 9, ground := Ground.phase }, { on := 10, ground := Ground.phase }, { on := 11, ground := Ground.phase }, { on := 12, ground := Ground.phase }], guard := none }) (v := ?v26) rfl (by kernel_rfl) (by kernel_rfl) (by kernel_rfl) (fun _ _ _ h => h) (Or.inl ⟨by rfl, ?hy26⟩) hHeld ?rest26
  case hy26 => (intro w' hSw; (try dsimp only at hSw); go_simp; (try with_reducible rfl))
  try simp only [Act.put, List.setIfInBounds_toArray, List.set_cons_zero, List.set_cons_succ]
  refine wpAnyH_done (by kernel_rfl) ?_ _
  go_wp2
  go_ret
  exact HE.out

set_option linter.unusedSimpArgs false in
set_option maxRecDepth 100000 in
set_option maxHeartbeats 8000000 in
theorem wstep_first {fb : FB} {w0 w : World} {X : Nat} {l : List (Nat × Nd)} {ds : List (List Value)} (h : Wst fb w0 w X l ds) (hf : l.length ≤ 900)
    (d i j o v : Int) (b : UInt8) (A : Option Addr) (n c : Nat) (p : List UInt8) (hB : ∀ V, Below w0.heap.size w0 V → Byt V w0.heap.size A n p) (hn : n ≤ 140737488351232) (ho : 0 ≤ o ∧ o ≤ 255) (hd0 : 0 ≤ d) (hi0 : 0 ≤ i ∧ i ≤ 65535) (hj0 : 0 ≤ j ∧ j ≤ 65535) (n0 : ¬ d % 9 = 0) (n1 : ¬ d % 9 = 1) (hl0 : l.length = 0) :
    Calls Tryz.prog 6 #[ptrN X, .agg #[.int .u8 d, .int .u16 i, .int .u16 j, .int .u8 o, .int .u8 (b.toNat : Int), .slice A n c, .int .u64 v]] w (StPost fb w0 X l) := by
  have HFN := Lib.hid (And.intro hf (And.intro hn (And.intro hi0 hj0)))
  obtain ⟨vl, vw, h, hD⟩ := h
  obtain ⟨Wa, hWa⟩ : ∃ Wa, w.alloc (.cells #[.int .u8 d, .int .u16 i, .int .u16 j, .int .u8 o, .int .u8 (b.toNat : Int), .slice A n c, .int .u64 v] 41) = Wa := ⟨_, rfl⟩
  have ba : Below w.heap.size w Wa := by rw [← hWa]; exact (Below.refl _ _).alloc (Nat.le_refl _) _
  have sa : Wa.heap.size = w.heap.size + 1 := by rw [← hWa]; simp
  have na : Blk Wa w.heap.size #[.int .u8 d, .int .u16 i, .int .u16 j, .int .u8 o, .int .u8 (b.toNat : Int), .slice A n c, .int .u64 v] := by rw [← hWa]; exact Blk.new w _ _
  have nsb : ¬ NX fb X vl vw w.heap.size := fun q => by have := h.lt _ q; omega
  have ha := h.on ba
  obtain ⟨q, hq⟩ : ∃ q : Int, o % 4 = q := ⟨_, rfl⟩
  have hq4 : o.tmod 4 = o % 4 := Int.tmod_eq_emod_of_nonneg ho.1
  have ewq : IntKind.u64.wrap q = q := by simp [IntKind.wrap, IntKind.bits, IntKind.signed]; omega
  have hd99 : d.tmod 9 = d % 9 := Int.tmod_eq_emod_of_nonneg hd0
  have HW := Lib.hid ha
  have HN := Lib.hid na
  have HHD := Lib.hid hD
  have HDL := Lib.hid (show ds.length = l.length from hD.1)
  have HPB := Lib.hid hB
  have NSB := Lib.hid nsb
  have HXlo := Lib.hid h.lo
  have f0 : Wa.cell? ⟨w.heap.size, 0, none⟩ = some (.int .u8 d) := na.cell 0
  have f1 : Wa.cell? ⟨w.heap.size, 1, none⟩ = some (.int .u16 i) := na.cell 1
  have f3 : Wa.cell? ⟨w.heap.size, 3, none⟩ = some (.int .u8 o) := na.cell 3
  have hL1 : Wa.cell? ⟨X, 1, none⟩ = some vl := ha.cL
  obtain ⟨A1, k1, hvl, _⟩ := ha.lst.slice
  rw [hvl, hl0] at hL1
  clear hvl
  obtain ⟨dd, hdd⟩ : ∃ dd, d % 9 = dd := ⟨_, rfl⟩
  rw [hdd] at hd99 n0 n1
  have g0 : (dd == 0) = false := by simpa using n0
  have g1 : (dd == 1) = false := by simpa using n1
  obtain ⟨L, hL⟩ : ∃ L, dnL q false A n c false 0 (fun _ => 0) = L := ⟨_, rfl⟩
  have HLn := Lib.hid (show Dn L by rw [← hL]; exact dn_is)
  have HDoc := Lib.hid (show DocOf w0 (l.map Prod.fst) (⟨false, q, p, 0, false, []⟩ : Nd) L from ⟨A, n, c, fun _ => 0, hL.symm, hB, KR.none_ _⟩)
  have HBl := Lib.hid (show (Tryz.zeroCells59.setIfInBounds 0 (Value.int IntKind.u64 q)).setIfInBounds 2 (Value.slice A n c) = L.toArray by rw [← hL]; kernel_rfl)
  have HW1 := Lib.hid (show Wb fb w0 Wa.drew X l.length l.length l l ds vl vw from ha.on (Below.refl _ _).drew)
  have HN1 := Lib.hid (show Blk Wa.drew w.heap.size #[.int .u8 d, .int .u16 i, .int .u16 j, .int .u8 o, .int .u8 (b.toNat : Int), .slice A n c, .int .u64 v] from na)
  have C1 := Lib.hid (HW1.out.nd.inner_ HW1.out.below.size HW1.out.lt (some X) (l.length : Int) q n c w0.heap.size p (mt_of HW1.out.blk (by omega) (by omega)) (fun i e => by injection e with e; exact .inr (.inl e.symm)) (hB _ (ha.below.trans ((Below.refl _ _).drew.mono ha.below.size))) HW1.out.below.size (by omega) (fun i hi e => by injection e with e; have := (hB _ ha.below).1; have := Byt.ltPb (show Byt Wa w0.heap.size A p.length p by rw [(hB _ ha.below).1]; exact hB _ ha.below) hi; have := h.lo; omega))
  rw [show mtr (some X) = ptrN X from rfl] at C1
  have HS := Lib.hid (fun (V : World) (q : Blk V w.heap.size #[.int .u8 d, .int .u16 i, .int .u16 j, .int .u8 o, .int .u8 (b.toNat : Int), .slice A n c, .int .u64 v]) => show V.cell? ⟨w.heap.size, 5, none⟩ = some (.slice A n c) ∧ V.cell? ⟨w.heap.size, 6, none⟩ = some (.int .u64 v) from ⟨q.cell 5, q.cell 6⟩)
  clear hL hB ba sa na nsb ha hD h HW HN
  go_enter Tryz.func6, Tryz.ntmps6
  go_upto_region 5 with fail
  try rw [hWa]
  clear hWa
  refine wp_region_held_drew (S := (fun w' => w'.cell? ⟨w.heap.size, 5, none⟩ = some (.slice A n c) ∧ w'.cell? ⟨w.heap.size, 6, none⟩ = some (.int .u64 v))) (by kernel_rfl) (HS.out _ HN1.out) (fun hHeld => ?_)
  refine wpAnyH_take (i := 0) (oi := { dst := some 45, op := Op.move (Operand.tmp 0), type := 25, pos := "law.go:86", after := #[], guard := none }) (v := ?v27) rfl (by kernel_rfl) (by kernel_rfl) (by kernel_rfl) (fun _ _ _ h => h) (Or.inl ⟨by rfl, ?hy27⟩) hHeld ?rest27
  case hy27 => (intro w' hSw; (try dsimp only at hSw); go_simp; (try with_reducible rfl))
  try simp only [Act.put, List.setIfInBounds_toArray, List.set_cons_zero, List.set_cons_succ]
  refine wpAnyH_take (i := 1) (oi := { dst := some 46, op := Op.move (Operand.tmp 0), type := 25, pos := "law.go:86", after := #[], guard := none }) (v := ?v28) rfl (by kernel_rfl) (by kernel_rfl) (by kernel_rfl) (fun _ _ _ h => h) (Or.inl ⟨by rfl, ?hy28⟩) hHeld ?rest28
  case hy28 => (intro w' hSw; (try dsimp only at hSw); go_simp; (try with_reducible rfl))
  try simp only [Act.put, List.setIfInBounds_toArray, List.set_cons_zero, List.set_cons_succ]
  refine wpAnyH_take (i := 2) (oi := { dst := some 47, op := Op.nilCheck (Operand.tmp 46), type := 0, pos := "law.go:86", after := #[{ on := 1, ground := Ground.data }], guard := none }) (v := ?v29) rfl (by kernel_rfl) (by kernel_rfl) (by kernel_rfl) (fun _ _ _ h => h) (Or.inl ⟨by rfl, ?hy29⟩) hHeld ?rest29
  case hy29 => (intro w' hSw; (try dsimp only at hSw); go_simp; (try with_reducible rfl))
  try simp only [Act.put, List.setIfInBounds_toArray, List.set_cons_zero, List.set_cons_succ]
  refine wpAnyH_take (i := 3) (oi := { dst := some 48, op := Op.fieldAddr 36 (Operand.tmp 47) 0, type := 0, pos := "law.go:86", after := #[{ on := 2, ground := Ground.data }], guard := none }) (v := ?v30) rfl (by kernel_rfl) (by kernel_rfl) (by kernel_rfl) (fun _ _ _ h => h) (Or.inl ⟨by rfl, ?hy30⟩) hHeld ?rest30
  case hy30 => (intro w' hSw; (try dsimp only at hSw); go_simp; (try with_reducible rfl))
  try simp only [Act.put, List.setIfInBounds_toArray, List.set_cons_zero, List.set_cons_succ]
  refine wpAnyH_take (i := 4) (oi := { dst := some 49, op := Op.move (Operand.tmp 5), type := 39, pos := "law.go:86", after := #[], guard := none }) (v := ?v31) rfl (by kernel_rfl) (by kernel_rfl) (by kernel_rfl) (fun _ _ _ h => h) (Or.inl ⟨by rfl, ?hy31⟩) hHeld ?rest31
  case hy31 => (intro w' hSw; (try dsimp only at hSw); go_simp; (try with_reducible rfl))
  try simp only [Act.put, List.setIfInBounds_toArray, List.set_cons_zero, List.set_cons_succ]
  refine wpAnyH_take (i := 5) (oi := { dst := some 50, op := Op.fieldAddr 41 (Operand.tmp 3) 5, type := 0, pos := "law.go:86", after := #[], guard := none }) (v := ?v32) rfl (by kernel_rfl) (by kernel_rfl) (by kernel_rfl) (fun _ _ _ h => h) (Or.inl ⟨by rfl, ?hy32⟩) hHeld ?rest32
  case hy32 => (intro w' hSw; (try dsimp only at hSw); go_simp; (try with_reducible rfl))
  try simp only [Act.put, List.setIfInBounds_toArray, List.set_cons_zero, List.set_cons_succ]
  refine wpAnyH_take (i := 6) (oi := { dst := some 51, op := Op.load 38 (Operand.tmp 50), type := 38, pos := "law.go:86", after := #[{ on := 5, ground := Ground.data }], guard := none }) (v := ?v33) rfl (by kernel_rfl) (by kernel_rfl) (by kernel_rfl) (fun _ _ _ h => h) (Or.inl ⟨by rfl, ?hy33⟩) hHeld ?rest33
  case hy33 => (intro w' hSw; (try dsimp only at hSw); go_simp; (try with_reducible rfl))
  try simp only [Act.put, List.setIfInBounds_toArray, List.set_cons_zero, List.set_cons_succ]
  refine wpAnyH_take (i := 8) (oi := { dst := some 53, op := Op.move (Operand.tmp 5), type := 39, pos := "law.go:86", after := #[], guard := none }) (v := ?v34) rfl (by kernel_rfl) (by kernel_rfl) (by kernel_rfl) (fun _ _ _ h => h) (Or.inl ⟨by rfl, ?hy34⟩) hHeld ?rest34
  case hy34 => (intro w' hSw; (try dsimp only at hSw); go_simp; (try with_reducible rfl))
  try simp only [Act.put, List.setIfInBounds_toArray, List.set_cons_zero, List.set_cons_succ]
  refine wpAnyH_take (i := 9) (oi := { dst := some 54, op := Op.fieldAddr 41 (Operand.tmp 3) 5, type := 0, pos := "law.go:86", after := #[], guard := none }) (v := ?v35) rfl (by kernel_rfl) (by kernel_rfl) (by kernel_rfl) (fun _ _ _ h => h) (Or.inl ⟨by rfl, ?hy35⟩) hHeld ?rest35
  case hy35 => (intro w' hSw; (try dsimp only at hSw); go_simp; (try with_reducible rfl))
  try simp only [Act.put, List.setIfInBounds_toArray, List.set_cons_zero, List.set_cons_succ]
  refine wpAnyH_take (i := 10) (oi := { dst := some 55, op := Op.load 38 (Operand.tmp 54), type := 38, pos := "law.go:86", after := #[{ on := 9, ground := Ground.data }], guard := none }) (v := ?v36) rfl (by kernel_rfl) (by kernel_rfl) (by kernel_rfl) (fun _ _ _ h => h) (Or.inl ⟨by rfl, ?hy36⟩) hHeld ?rest36
  case hy36 => (intro w' hSw; (try dsimp only at hSw); go_simp; (try with_reducible rfl))
  try simp only [Act.put, List.setIfInBounds_toArray, List.set_cons_zero, List.set_cons_succ]
  refine wpAnyH_take (i := 11) (oi := { dst := some 56, op := Op.build 59 #[(0, Operand.tmp 53), (2, Operand.tmp 55)], type := 59, pos := "law.go:86", after := #[{ on := 8, ground := Ground.data }, { on := 10, ground := Ground.data }], guard := none }) (v := .agg L.toArray) rfl (by kernel_rfl) (by kernel_rfl) (by kernel_rfl) (fun _ _ _ h => h) (Or.inl ⟨by rfl, ?hyV⟩) hHeld ?_
  case hyV => (intro w' hSw; (try dsimp only at hSw); go_simp; (try exact HBl.out))
  try simp only [Act.put, List.setIfInBounds_toArray, List.set_cons_zero, List.set_cons_succ]
  refine wpAnyH_ready (rs := [7]) (by kernel_rfl) (by simp) (AllReadyH.cons (o := { dst := some 52, op := Op.call { callee := Callee.value (Operand.func 9), args := #[Operand.tmp 48, Operand.tmp 49, Operand.tmp 51], argTypes := #[48, 39, 38] }, type := 46, pos := "law.go:86", after := #[{ on := 3, ground := Ground.data }, { on := 4, ground := Ground.data }, { on := 6, ground := Ground.data }], guard := none }) rfl (fun K hK => ?_) AllReadyH.nil)
  go_simp
  (with_reducible refine C1.out.mono ?_)
  rintro e w2 ⟨g, rfl, nn, kk, cc⟩
  have HM2 := Lib.hid (HW1.out.made nn kk (cc _ rfl))
  have HB2 := Lib.hid (kk.blk HN1.out (fun e => by injection e with e; exact NSB.out (.inl e.symm)))
  clear nn kk cc C1
  go_wp2_with fail
  refine hK.out _ _ (HS.out _ HB2.out) (fun hHeld' => ?_)
  clear hK K hHeld
  have hHeld := hHeld'
  clear hHeld'
  try simp only [Act.put, List.setIfInBounds_toArray, List.set_cons_zero, List.set_cons_succ]
  refine wpAnyH_ready (rs := [12]) (by kernel_rfl) (by simp) (AllReadyH.cons (o := { dst := some 57, op := Op.call { callee := Callee.value (Operand.func 17), args := #[Operand.tmp 45, Operand.tmp 52, Operand.tmp 56], argTypes := #[25, 46, 59] }, type := 4, pos := "law.go:86", after := #[{ on := 0, ground := Ground.data }, { on := 7, ground := Ground.data }, { on := 11, ground := Ground.data }, { on := 7, ground := Ground.chain }], guard := none }) rfl (fun K hK => ?_) AllReadyH.nil)
  go_simp
  (with_reducible refine (wfresh_any HM2.out L HLn.out (by omega) (by omega) (by have := HDL.out; omega)).mono ?_)
  rintro e w3 ⟨rfl, vl', vw', hb', kf⟩
  have HB3 := Lib.hid (kf.blk HB2.out NSB.out)
  have HE := Lib.hid (show StPost fb w0 X l (.returned (.bool true)) w3 from ⟨rfl, l ++ [(g, (⟨false, q, p, 0, false, []⟩ : Nd))], ds ++ [L], ⟨vl', vw', by simpa using hb', HHD.out.more HDoc.out⟩, by simp, by simp, by simp⟩)
  clear hb' kf
  go_wp2_with fail
  refine hK.out _ _ (HS.out _ HB3.out) (fun hHeld' => ?_)
  clear hK K hHeld
  have hHeld := hHeld'
  clear hHeld'
  try simp only [Act.put, List.setIfInBounds_toArray, List.set_cons_zero, List.set_cons_succ]
  refine wpAnyH_take (i := 13) (oi := { dst := some 4, op := Op.assign (Operand.tmp 57), type := 4, pos := "law.go:86", after := #[{ on := 12, ground := Ground.data }, { on := 12, ground := Ground.chain }, { on := 0, ground := Ground.phase }, { on := 1, ground := Ground.phase }, { on := 2, ground := Ground.phase }, { on := 3, ground := Ground.phase }, { on := 4, ground := Ground.phase }, { on := 5, ground := Ground.phase }, { on := 6, ground := Ground.phase }, { on := 7, ground := Ground.phase }, { on := 8, ground := Ground.phase }, { on := 9, ground := Ground.phase }, { on := 10, ground := Ground.phase }, { on := 11, ground := Ground.phase }, { on := 12, ground := Ground.phase }], guard := none }) (v := ?v37) rfl (by kernel_rfl) (by kernel_rfl) (by kernel_rfl) (fun _ _ _ h => h) (Or.inl ⟨by rfl, ?hy37⟩) hHeld ?rest37
  case hy37 => (intro w' hSw; (try dsimp only at hSw); go_simp; (try with_reducible rfl))
  try simp only [Act.put, List.setIfInBounds_toArray, List.set_cons_zero, List.set_cons_succ]
  refine wpAnyH_done (by kernel_rfl) ?_ _
  go_wp2
  go_ret
  exact HE.out

end Go.Proofs.YtgelmhldicmmdaaGreat
