/-
  The document's row: Set.
-/
import Derived.Test.YtahmalmpbdfnhaaDocSet
namespace Go.Proofs.Ytahmalmpbdfnhaa
open Go.RowKit

section
variable {room : Nat} {es : List Ent}
set_option linter.unusedSimpArgs false in
set_option maxHeartbeats 2000000 in
set_option maxRecDepth 100000 in
theorem rset_no (h : Up es) (b : UInt8) (x : Th) (hh : hasE es b.toNat = false) (w : World) : Calls Try.prog 13 #[.agg (docL room es).toArray, .int .u8 (b.toNat : Int), ev x] w fun e w' =>
    e = .returned (.tuple #[.agg (docL room (setR room es b x)).toArray, .int .i64 (setN room es b)]) ∧ Below w.heap.size w w' := by
  obtain ⟨W, hW, hl, hzl, hb, hs⟩ := doc_pair (room := room) (es := es) w
  have hlt := b.toNat_lt
  have HS0 := Lib.hid (show (W.drew.rangeAt w.heap.size 0 (docL room es)) ∧ W.drew.cell? ⟨w.heap.size, 1 + b.toNat, none⟩ = some (.bool false) ∧ W.drew.cell? ⟨w.heap.size, 0, none⟩ = some (.int .i64 (room : Int)) from
    ⟨Lst.all (Lst.drew hl), by rw [Lst.at_ (Lst.drew hl), docL_has hlt, hh], by rw [Lst.at_ (Lst.drew hl)]; rfl⟩)
  have HK := Lib.hid (fun (V : World) (q : Below W.drew.heap.size W.drew V) => (show (V.rangeAt w.heap.size 0 (docL room es) ∧ V.cell? ⟨w.heap.size, 1 + b.toNat, none⟩ = some (.bool false) ∧ V.cell? ⟨w.heap.size, 0, none⟩ = some (.int .i64 (room : Int))) ∧ Lst V w.heap.size (docL room es) ∧ Lst V (w.heap.size + 1) zeroL ∧ Below w.heap.size w V from by
    have h1 : Lst V w.heap.size (docL room es) := Blk.below (Lst.drew hl) q (Blk.lt (Lst.drew hl))
    have h2 : Lst V (w.heap.size + 1) zeroL := Blk.below (Lst.drew hzl) q (Blk.lt (Lst.drew hzl))
    refine ⟨⟨Lst.all h1, by rw [Lst.at_ h1, docL_has hlt, hh], by rw [Lst.at_ h1]; rfl⟩, h1, h2, hb.drew.trans (q.mono (by show w.heap.size ≤ W.heap.size; omega))⟩))
  have HLn := Lib.hid (show (Try.prog.info? 28).map (·.size) = some (docL room es).length by rw [docL_length]; exact doc_size)
  have CL := Lib.hid (fun V => rlen_any (room := room) h V)
  have ew : IntKind.i64.wrap (b.toNat : Int) = (b.toNat : Int) := by rw [IntKind.wrap_i64]; omega
  have hbi : (b.toNat : Int) < 256 := by omega
  have HW := Lib.hid hW
  clear hl hzl hb hs hW
  generalize hL : docL room es = L at HS0 HLn CL HW ⊢
  have HLe := Lib.hid hL
  go_enter Try.func13, Try.ntmps13
  go_wp2_with (refine wpList_alloc_z rfl 28 rfl zeroL.toArray doc_zero ?_; rw [HW.out])
  all_goals
    refine wp_region_held_drew (S := (fun w' => w'.rangeAt w.heap.size 0 L ∧ w'.cell? ⟨w.heap.size, 1 + b.toNat, none⟩ = some (.bool false) ∧ w'.cell? ⟨w.heap.size, 0, none⟩ = some (.int .i64 (room : Int)))) (by kernel_rfl) HS0.out (fun hHeld => ?_)
    refine wpAnyH_take (i := 0) (oi := { dst := some 8, op := Op.move (Operand.tmp 1), type := 5, pos := "ref.go:39", after := #[], guard := none }) (v := ?v1) rfl (by kernel_rfl) (by kernel_rfl) (by kernel_rfl) (fun _ _ _ h => h) (Or.inl ⟨by rfl, ?hy1⟩) hHeld ?rest1
    case hy1 => (intro w' hSw; (try dsimp only at hSw); go_simp; (try with_reducible rfl))
    try simp only [Act.put, List.setIfInBounds_toArray, List.set_cons_zero, List.set_cons_succ]
    refine wpAnyH_take (i := 1) (oi := { dst := some 9, op := Op.convert 5 3 (Operand.tmp 8), type := 3, pos := "ref.go:39", after := #[{ on := 0, ground := Ground.data }], guard := none }) (v := ?v2) rfl (by kernel_rfl) (by kernel_rfl) (by kernel_rfl) (fun _ _ _ h => h) (Or.inl ⟨by rfl, ?hy2⟩) hHeld ?rest2
    case hy2 => (intro w' hSw; (try dsimp only at hSw); go_simp; (try with_reducible rfl))
    try simp only [Act.put, List.setIfInBounds_toArray, List.set_cons_zero, List.set_cons_succ]
    refine wpAnyH_take (i := 2) (oi := { dst := some 10, op := Op.fieldAddr 28 (Operand.tmp 3) 1, type := 0, pos := "ref.go:39", after := #[], guard := none }) (v := ?v3) rfl (by kernel_rfl) (by kernel_rfl) (by kernel_rfl) (fun _ _ _ h => h) (Or.inl ⟨by rfl, ?hy3⟩) hHeld ?rest3
    case hy3 => (intro w' hSw; (try dsimp only at hSw); go_simp; (try with_reducible rfl))
    try simp only [Act.put, List.setIfInBounds_toArray, List.set_cons_zero, List.set_cons_succ]
    refine wpAnyH_take (i := 3) (oi := { dst := some 11, op := Op.indexAddr 25 (Operand.tmp 10) (Operand.tmp 9), type := 0, pos := "ref.go:39", after := #[{ on := 2, ground := Ground.data }, { on := 1, ground := Ground.data }], guard := none }) (v := ?v4) rfl (by kernel_rfl) (by kernel_rfl) (by kernel_rfl) (fun _ _ _ h => h) (Or.inl ⟨by rfl, ?hy4⟩) hHeld ?rest4
    case hy4 => (intro w' hSw; (try dsimp only at hSw); go_simp; (try with_reducible rfl))
    try simp only [Act.put, List.setIfInBounds_toArray, List.set_cons_zero, List.set_cons_succ]
    refine wpAnyH_take (i := 4) (oi := { dst := some 12, op := Op.load 4 (Operand.tmp 11), type := 4, pos := "ref.go:39", after := #[{ on := 3, ground := Ground.data }], guard := none }) (v := ?v5) rfl (by kernel_rfl) (by kernel_rfl) (by kernel_rfl) (fun _ _ _ h => h) (Or.inl ⟨by rfl, ?hy5⟩) hHeld ?rest5
    case hy5 => (intro w' hSw; (try dsimp only at hSw); go_simp; (try with_reducible rfl))
    try simp only [Act.put, List.setIfInBounds_toArray, List.set_cons_zero, List.set_cons_succ]
    refine wpAnyH_take (i := 5) (oi := { dst := some 13, op := Op.unOp UnOp.not 4 (Operand.tmp 12), type := 4, pos := "ref.go:39", after := #[{ on := 4, ground := Ground.data }], guard := none }) (v := ?v6) rfl (by kernel_rfl) (by kernel_rfl) (by kernel_rfl) (fun _ _ _ h => h) (Or.inl ⟨by rfl, ?hy6⟩) hHeld ?rest6
    case hy6 => (intro w' hSw; (try dsimp only at hSw); go_simp; (try with_reducible rfl))
    try simp only [Act.put, List.setIfInBounds_toArray, List.set_cons_zero, List.set_cons_succ]
    refine wpAnyH_take (i := 6) (oi := { dst := some 14, op := Op.move (Operand.tmp 13), type := 4, pos := "ref.go:39", after := #[{ on := 5, ground := Ground.data }], guard := none }) (v := ?v7) rfl (by kernel_rfl) (by kernel_rfl) (by kernel_rfl) (fun _ _ _ h => h) (Or.inl ⟨by rfl, ?hy7⟩) hHeld ?rest7
    case hy7 => (intro w' hSw; (try dsimp only at hSw); go_simp; (try with_reducible rfl))
    try simp only [Act.put, List.setIfInBounds_toArray, List.set_cons_zero, List.set_cons_succ]
    refine wpAnyH_take (i := 7) (oi := { dst := some 15, op := Op.load 28 (Operand.tmp 3), type := 28, pos := "ref.go:39", after := #[{ on := 6, ground := Ground.guard }], guard := some (6, true) }) (v := .agg L.toArray) rfl (by kernel_rfl) (by kernel_rfl) (by kernel_rfl) (fun _ _ _ h => h) (yieldsIf_load_mid (by rfl) 28 (.tmp 3) rfl w.heap.size 0 (by rfl) L _ (fun _ h => h.1) Try.underlying28 rfl HLn.out) hHeld ?_
    try simp only [Act.put, List.setIfInBounds_toArray, List.set_cons_zero, List.set_cons_succ]
    refine wpAnyH_take (i := 9) (oi := { dst := some 17, op := Op.fieldAddr 28 (Operand.tmp 3) 0, type := 0, pos := "ref.go:39", after := #[{ on := 6, ground := Ground.guard }], guard := some (6, true) }) (v := ?v8) rfl (by kernel_rfl) (by kernel_rfl) (by kernel_rfl) (fun _ _ _ h => h) (Or.inl ⟨by rfl, ?hy8⟩) hHeld ?rest8
    case hy8 => (intro w' hSw; (try dsimp only at hSw); go_simp; (try with_reducible rfl))
    try simp only [Act.put, List.setIfInBounds_toArray, List.set_cons_zero, List.set_cons_succ]
    refine wpAnyH_take (i := 10) (oi := { dst := some 18, op := Op.load 3 (Operand.tmp 17), type := 3, pos := "ref.go:39", after := #[{ on := 9, ground := Ground.data }, { on := 6, ground := Ground.guard }], guard := some (6, true) }) (v := ?v9) rfl (by kernel_rfl) (by kernel_rfl) (by kernel_rfl) (fun _ _ _ h => h) (Or.inl ⟨by rfl, ?hy9⟩) hHeld ?rest9
    case hy9 => (intro w' hSw; (try dsimp only at hSw); go_simp; (try with_reducible rfl))
    try simp only [Act.put, List.setIfInBounds_toArray, List.set_cons_zero, List.set_cons_succ]
    refine wpAnyH_ready (rs := [8]) (by kernel_rfl) (by simp) (AllReadyH.cons (o := { dst := some 16, op := Op.call { callee := Callee.value (Operand.func 17), args := #[Operand.tmp 15], argTypes := #[28] }, type := 3, pos := "ref.go:39", after := #[{ on := 7, ground := Ground.data }, { on := 6, ground := Ground.chain }, { on := 6, ground := Ground.guard }], guard := some (6, true) }) rfl (fun K hK => ?_) AllReadyH.nil)
    go_simp
    (with_reducible refine (CL.out _).mono ?_)
    rintro e w2 ⟨rfl, h2⟩
    have HS2 := Lib.hid (HK.out w2 (h2.mono (by simp)))
    have B2 := Lib.hid h2
    clear h2
    go_wp2_with fail
    refine hK.out _ _ (by have := HS2.out.1; rw [HLe.out] at this; exact this) (fun hHeld' => ?_)
    clear hK K hHeld
    have hHeld := hHeld'
    clear hHeld'
    try simp only [Act.put, List.setIfInBounds_toArray, List.set_cons_zero, List.set_cons_succ]
    refine wpAnyH_take (i := 11) (oi := { dst := some 19, op := Op.binOp BinOp.eql 3 (Operand.tmp 16) (Operand.tmp 18) 3, type := 4, pos := "ref.go:39", after := #[{ on := 8, ground := Ground.data }, { on := 10, ground := Ground.data }, { on := 6, ground := Ground.guard }], guard := some (6, true) }) (v := ?v10) rfl (by kernel_rfl) (by kernel_rfl) (by kernel_rfl) (fun _ _ _ h => h) (Or.inl ⟨by rfl, ?hy10⟩) hHeld ?rest10
    case hy10 => (intro w' hSw; (try dsimp only at hSw); go_simp; (try with_reducible rfl))
    try simp only [Act.put, List.setIfInBounds_toArray, List.set_cons_zero, List.set_cons_succ]
    refine wpAnyH_take (i := 12) (oi := { dst := some 20, op := Op.pick (Operand.tmp 14) (Operand.tmp 19) (Operand.const (Value.bool false)), type := 4, pos := "ref.go:39", after := #[{ on := 6, ground := Ground.data }, { on := 11, ground := Ground.data }], guard := none }) (v := ?v11) rfl (by kernel_rfl) (by kernel_rfl) (by kernel_rfl) (fun _ _ _ h => h) (Or.inl ⟨by rfl, ?hy11⟩) hHeld ?rest11
    case hy11 => (intro w' hSw; (try dsimp only at hSw); go_simp; (try with_reducible rfl))
    try simp only [Act.put, List.setIfInBounds_toArray, List.set_cons_zero, List.set_cons_succ]
    refine wpAnyH_done (by kernel_rfl) ?_ _
    obtain ⟨_, hl2, hz2, hb2⟩ := HS2.out
    clear HS2 HS0 HK HLn CL hHeld hL HLe
    by_cases hf : es.length = room
    · have hfi : (es.length : Int) = (room : Int) := by omega
      have HH := Lib.hid (And.intro hh hf)
      have EE := Lib.hid (show docL room (setR room es b x) = docL room (es) ∧ setN room es b = 10 by simp [setR, setN, HH.out])
      have BK := Lib.hid (Bck.of (room := room) (es := es) hl2 hz2 zeroL_length)
      have HB := Lib.hid (back_below hb2 (docL room (es)).toArray.toList hb2.size)
      have HSz := Lib.hid (show (Try.prog.info? 28).map (·.size) = some (docL room (es)).toArray.size by rw [docA_size]; exact doc_size)
      have HSz' := Lib.hid (show (Try.prog.info? 28).map (·.size) = some (docL room (es)).length by rw [docL_length]; exact doc_size)
      have HOn := Lib.hid (all_oneCell_toArray (docL_one (room := room) (es := es)))
      obtain ⟨X2, hX2⟩ : ∃ X2, X2 = w2.setCells (w.heap.size + 1) 0 (docL room (es)).toArray.toList := ⟨_, rfl⟩
      rw [← hX2] at BK HB
      have HRT := Lib.hid (fun (tmps : Array Value) (hp : tmps.getD 6 undef = .pointer (some ⟨w.heap.size + 1, 0, none⟩)) => doc_ret Try.f13 rfl tmps BK.out.bk hp)
      have HL := Lib.hid (And.intro BK.out.ld (And.intro BK.out.th_ BK.out.ov))
      clear hX2 BK
      generalize docL room (es) = L' at HRT HL HSz HSz' HOn EE
      go_wp2_with (first
        | (refine wpList_load_mid rfl 28 (.tmp 3) rfl w.heap.size 0 rfl L' _ HL.out.1 Try.underlying28 rfl HSz'.out ?_)
        | (refine wpList_store_mid rfl 28 (.tmp 6) (.tmp 21) rfl (w.heap.size + 1) 0 L'.toArray rfl rfl HL.out.2.1 HSz.out HOn.out ?_; rw [← HL.out.2.2]))
      (try simp only [Exit.inBlock, Exit.then])
      refine bodyPost_ret (HRT.out _ (by rfl)) (by rfl) ?_
      exact ⟨by rw [EE.out.1, EE.out.2]; rfl, HB.out⟩
    · have hfi : ¬ ((es.length : Int) = (room : Int)) := by omega
      have HH := Lib.hid hf
      obtain ⟨Y, hY⟩ : ∃ Y, (w2.setCell ⟨w.heap.size, 1 + b.toNat, none⟩ (.bool true)).setCell ⟨w.heap.size, 257 + b.toNat, none⟩ (ev x) = Y := ⟨_, rfl⟩
      have hy1 : Lst Y w.heap.size (docL room (setE es b x)) := by rw [← docL_set h, ← hY]; exact Lst.set1 (Lst.set1 hl2 _ _) _ _
      have ky : Kept (· = w.heap.size) w2 Y := by rw [← hY]; exact (Kept.set_ (D := (· = w.heap.size)) w2 ⟨w.heap.size, 1 + b.toNat, none⟩ _ rfl).trans (Kept.set_ _ ⟨w.heap.size, 257 + b.toNat, none⟩ _ rfl)
      have hy2 : Lst Y (w.heap.size + 1) zeroL := ky.blk hz2 (by omega)
      have hy3 : Below w.heap.size w Y := hb2.trans (ky.below hb2.size (fun q hq => by omega))
      have HY := Lib.hid hY
      have q1 : ¬ (1 + b.toNat = 257 + b.toNat) := by omega
      obtain ⟨v1, d1⟩ : ∃ v1, w2.cell? ⟨w.heap.size, 1 + b.toNat, none⟩ = some v1 := Option.isSome_iff_exists.1 (Lst.isSome hl2 (by rw [docL_length]; omega))
      obtain ⟨v2, d2⟩ : ∃ v2, w2.cell? ⟨w.heap.size, 257 + b.toNat, none⟩ = some v2 := Option.isSome_iff_exists.1 (Lst.isSome hl2 (by rw [docL_length]; omega))
      have f1 : w2.frozen? ⟨w.heap.size, 1 + b.toNat, none⟩ = false := Blk.fz hl2 _
      have f2 : w2.frozen? ⟨w.heap.size, 257 + b.toNat, none⟩ = false := Blk.fz hl2 _
      clear hY ky
      have EE := Lib.hid (show docL room (setR room es b x) = docL room (setE es b x) ∧ setN room es b = 0 by simp [setR, setN, HH.out])
      have BK := Lib.hid (Bck.of (room := room) (es := setE es b x) hy1 hy2 zeroL_length)
      have HB := Lib.hid (back_below hy3 (docL room (setE es b x)).toArray.toList hy3.size)
      have HSz := Lib.hid (show (Try.prog.info? 28).map (·.size) = some (docL room (setE es b x)).toArray.size by rw [docA_size]; exact doc_size)
      have HSz' := Lib.hid (show (Try.prog.info? 28).map (·.size) = some (docL room (setE es b x)).length by rw [docL_length]; exact doc_size)
      have HOn := Lib.hid (all_oneCell_toArray (docL_one (room := room) (es := setE es b x)))
      obtain ⟨X2, hX2⟩ : ∃ X2, X2 = Y.setCells (w.heap.size + 1) 0 (docL room (setE es b x)).toArray.toList := ⟨_, rfl⟩
      rw [← hX2] at BK HB
      have HRT := Lib.hid (fun (tmps : Array Value) (hp : tmps.getD 6 undef = .pointer (some ⟨w.heap.size + 1, 0, none⟩)) => doc_ret Try.f13 rfl tmps BK.out.bk hp)
      have HL := Lib.hid (And.intro BK.out.ld (And.intro BK.out.th_ BK.out.ov))
      clear hX2 BK
      generalize docL room (setE es b x) = L' at HRT HL HSz HSz' HOn EE
      go_wp2_with (first
        | (rw [HY.out]; refine wpList_load_mid rfl 28 (.tmp 3) rfl w.heap.size 0 rfl L' _ HL.out.1 Try.underlying28 rfl HSz'.out ?_)
        | (refine wpList_store_mid rfl 28 (.tmp 6) (.tmp 31) rfl (w.heap.size + 1) 0 L'.toArray rfl rfl HL.out.2.1 HSz.out HOn.out ?_; rw [← HL.out.2.2]))
      (try simp only [Exit.inBlock, Exit.then])
      refine bodyPost_ret (HRT.out _ (by rfl)) (by rfl) ?_
      exact ⟨by rw [EE.out.1, EE.out.2]; rfl, HB.out⟩
set_option linter.unusedSimpArgs false in
set_option maxHeartbeats 2000000 in
set_option maxRecDepth 100000 in
theorem rset_yes (h : Up es) (b : UInt8) (x : Th) (hh : hasE es b.toNat = true) (w : World) : Calls Try.prog 13 #[.agg (docL room es).toArray, .int .u8 (b.toNat : Int), ev x] w fun e w' =>
    e = .returned (.tuple #[.agg (docL room (setR room es b x)).toArray, .int .i64 (setN room es b)]) ∧ Below w.heap.size w w' := by
  obtain ⟨W, hW, hl, hzl, hb, hs⟩ := doc_pair (room := room) (es := es) w
  have hlt := b.toNat_lt
  have c1 : W.cell? ⟨w.heap.size, 1 + b.toNat, none⟩ = some (.bool true) := by rw [Lst.at_ hl, docL_has hlt, hh]
  have ew : IntKind.i64.wrap (b.toNat : Int) = (b.toNat : Int) := by rw [IntKind.wrap_i64]; omega
  have hbi : (b.toNat : Int) < 256 := by omega
  have HW := Lib.hid hW
  have HK := Lib.hid (And.intro hl (And.intro hzl hb))
  clear hW hl hzl hb
  have HH := Lib.hid hh
  generalize hL : docL room es = L at HW HK ⊢
  go_enter Try.func13, Try.ntmps13
  go_wp2_with (refine wpList_alloc_z rfl 28 rfl zeroL.toArray doc_zero ?_; rw [HW.out])
  go_quiet (fail)
  obtain ⟨V, hV⟩ : ∃ V, V = W.drewN nq := ⟨_, rfl⟩
  have hl2 : Lst V w.heap.size (docL room es) := by subst hV; rw [hL]; exact Lst.drewN HK.out.1 _
  have hz2 : Lst V (w.heap.size + 1) zeroL := by subst hV; exact Lst.drewN HK.out.2.1 _
  have hb2 : Below w.heap.size w V := by subst hV; exact below_drewN HK.out.2.2 _
  rw [← hV]
  clear hV HK c1 hL
  obtain ⟨Y, hY⟩ : ∃ Y, (V.setCell ⟨w.heap.size, 1 + b.toNat, none⟩ (.bool true)).setCell ⟨w.heap.size, 257 + b.toNat, none⟩ (ev x) = Y := ⟨_, rfl⟩
  have hy1 : Lst Y w.heap.size (docL room (setE es b x)) := by rw [← docL_set h, ← hY]; exact Lst.set1 (Lst.set1 hl2 _ _) _ _
  have ky : Kept (· = w.heap.size) V Y := by rw [← hY]; exact (Kept.set_ (D := (· = w.heap.size)) V ⟨w.heap.size, 1 + b.toNat, none⟩ _ rfl).trans (Kept.set_ _ ⟨w.heap.size, 257 + b.toNat, none⟩ _ rfl)
  have hy2 : Lst Y (w.heap.size + 1) zeroL := ky.blk hz2 (by omega)
  have hy3 : Below w.heap.size w Y := hb2.trans (ky.below hb2.size (fun q hq => by omega))
  have HY := Lib.hid hY
  have q1 : ¬ (1 + b.toNat = 257 + b.toNat) := by omega
  obtain ⟨v1, d1⟩ : ∃ v1, V.cell? ⟨w.heap.size, 1 + b.toNat, none⟩ = some v1 := Option.isSome_iff_exists.1 (Lst.isSome hl2 (by rw [docL_length]; omega))
  obtain ⟨v2, d2⟩ : ∃ v2, V.cell? ⟨w.heap.size, 257 + b.toNat, none⟩ = some v2 := Option.isSome_iff_exists.1 (Lst.isSome hl2 (by rw [docL_length]; omega))
  have f1 : V.frozen? ⟨w.heap.size, 1 + b.toNat, none⟩ = false := Blk.fz hl2 _
  have f2 : V.frozen? ⟨w.heap.size, 257 + b.toNat, none⟩ = false := Blk.fz hl2 _
  clear hY ky
  have EE := Lib.hid (show docL room (setR room es b x) = docL room (setE es b x) ∧ setN room es b = 0 by simp [setR, setN, HH.out])
  have BK := Lib.hid (Bck.of (room := room) (es := setE es b x) hy1 hy2 zeroL_length)
  have HB := Lib.hid (back_below hy3 (docL room (setE es b x)).toArray.toList hy3.size)
  have HSz := Lib.hid (show (Try.prog.info? 28).map (·.size) = some (docL room (setE es b x)).toArray.size by rw [docA_size]; exact doc_size)
  have HSz' := Lib.hid (show (Try.prog.info? 28).map (·.size) = some (docL room (setE es b x)).length by rw [docL_length]; exact doc_size)
  have HOn := Lib.hid (all_oneCell_toArray (docL_one (room := room) (es := setE es b x)))
  obtain ⟨X2, hX2⟩ : ∃ X2, X2 = Y.setCells (w.heap.size + 1) 0 (docL room (setE es b x)).toArray.toList := ⟨_, rfl⟩
  rw [← hX2] at BK HB
  have HRT := Lib.hid (fun (tmps : Array Value) (hp : tmps.getD 6 undef = .pointer (some ⟨w.heap.size + 1, 0, none⟩)) => doc_ret Try.f13 rfl tmps BK.out.bk hp)
  have HL := Lib.hid (And.intro BK.out.ld (And.intro BK.out.th_ BK.out.ov))
  clear hX2 BK
  generalize docL room (setE es b x) = L' at HRT HL HSz HSz' HOn EE
  go_wp2_with (first
    | (rw [HY.out]; refine wpList_load_mid rfl 28 (.tmp 3) rfl w.heap.size 0 rfl L' _ HL.out.1 Try.underlying28 rfl HSz'.out ?_)
    | (refine wpList_store_mid rfl 28 (.tmp 6) (.tmp 31) rfl (w.heap.size + 1) 0 L'.toArray rfl rfl HL.out.2.1 HSz.out HOn.out ?_; rw [← HL.out.2.2]))
  (try simp only [Exit.inBlock, Exit.then])
  refine bodyPost_ret (HRT.out _ (by rfl)) (by rfl) ?_
  exact ⟨by rw [EE.out.1, EE.out.2]; rfl, HB.out⟩
set_option maxRecDepth 100000 in
theorem rset_any (h : Up es) (b : UInt8) (x : Th) (z : Int) (hz : z = (b.toNat : Int)) (w : World) : Calls Try.prog 13 #[.agg (docL room es).toArray, .int .u8 z, ev x] w fun e w' =>
    e = .returned (.tuple #[.agg (docL room (setR room es b x)).toArray, .int .i64 (setN room es b)]) ∧ Below w.heap.size w w' := by
  subst hz
  cases hh : hasE es b.toNat with
  | true => exact rset_yes h b x hh w
  | false => exact rset_no h b x hh w
end
end Go.Proofs.Ytahmalmpbdfnhaa
