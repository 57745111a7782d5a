/-
  A step of layer 12's world: a node is copied.
  A step of layer 12's world: a node is its own.
-/
import Derived.Test.YtgelmhldicmmdaaGreatWdStep
import Derived.Test.YtgelmhldicmmdaaGreatNdFroz
namespace Go.Proofs.YtgelmhldicmmdaaGreat
open Go.RowKit

set_option linter.unusedSimpArgs false in
set_option maxRecDepth 100000 in
set_option maxHeartbeats 8000000 in
theorem wstep_copy {fb : FB} {w0 w : World} {X : Nat} {l : List (Nat × Nd)} {ds : List (List Value)} (h : Wst fb w0 w X l ds) (hf : l.length ≤ 900)
    (d i j o v : Int) (b : UInt8) (A : Option Addr) (n c : Nat) (p : List UInt8) (hB : ∀ V, Below w0.heap.size w0 V → Byt V w0.heap.size A n p) (hn : n ≤ 140737488351232) (ho : 0 ≤ o ∧ o ≤ 255) (hd0 : 0 ≤ d) (hi0 : 0 ≤ i ∧ i ≤ 65535) (hj0 : 0 ≤ j ∧ j ≤ 65535) (n0 : ¬ d % 9 = 0) (n1 : ¬ d % 9 = 1) (hpos : 0 < l.length) (h2 : d % 9 = 2) :
    Calls Tryz.prog 6 #[ptrN X, .agg #[.int .u8 d, .int .u16 i, .int .u16 j, .int .u8 o, .int .u8 (b.toNat : Int), .slice A n c, .int .u64 v]] w (StPost fb w0 X l) := by
  have HFN := Lib.hid (And.intro hf (And.intro hn (And.intro hi0 hj0)))
  obtain ⟨vl, vw, h, hD⟩ := h
  obtain ⟨Wa, hWa⟩ : ∃ Wa, w.alloc (.cells #[.int .u8 d, .int .u16 i, .int .u16 j, .int .u8 o, .int .u8 (b.toNat : Int), .slice A n c, .int .u64 v] 41) = Wa := ⟨_, rfl⟩
  have ba : Below w.heap.size w Wa := by rw [← hWa]; exact (Below.refl _ _).alloc (Nat.le_refl _) _
  have sa : Wa.heap.size = w.heap.size + 1 := by rw [← hWa]; simp
  have na : Blk Wa w.heap.size #[.int .u8 d, .int .u16 i, .int .u16 j, .int .u8 o, .int .u8 (b.toNat : Int), .slice A n c, .int .u64 v] := by rw [← hWa]; exact Blk.new w _ _
  have nsb : ¬ NX fb X vl vw w.heap.size := fun q => by have := h.lt _ q; omega
  have ha := h.on ba
  obtain ⟨q, hq⟩ : ∃ q : Int, o % 4 = q := ⟨_, rfl⟩
  have hq4 : o.tmod 4 = o % 4 := Int.tmod_eq_emod_of_nonneg ho.1
  have ewq : IntKind.u64.wrap q = q := by simp [IntKind.wrap, IntKind.bits, IntKind.signed]; omega
  have hd99 : d.tmod 9 = d % 9 := Int.tmod_eq_emod_of_nonneg hd0
  have HW := Lib.hid ha
  have HN := Lib.hid na
  have HHD := Lib.hid hD
  have HDL := Lib.hid (show ds.length = l.length from hD.1)
  have HPB := Lib.hid hB
  have NSB := Lib.hid nsb
  have HXlo := Lib.hid h.lo
  have f0 : Wa.cell? ⟨w.heap.size, 0, none⟩ = some (.int .u8 d) := na.cell 0
  have f1 : Wa.cell? ⟨w.heap.size, 1, none⟩ = some (.int .u16 i) := na.cell 1
  have f3 : Wa.cell? ⟨w.heap.size, 3, none⟩ = some (.int .u8 o) := na.cell 3
  obtain ⟨k, hki⟩ : ∃ k : Nat, i % (l.length : Int) = (k : Int) := ⟨(i % (l.length : Int)).toNat, by have := Int.emod_nonneg i (show (l.length : Int) ≠ 0 by omega); omega⟩
  have hkl0 : k < l.length := by have := Int.emod_lt_of_pos i (show (0 : Int) < (l.length : Int) by omega); omega
  have hkl : (k : Int) < (l.length : Int) := by omega
  have hit : i.tmod (l.length : Int) = (k : Int) := by rw [Int.tmod_eq_emod_of_nonneg hi0.1]; exact hki
  obtain ⟨⟨g, x⟩, hk⟩ : ∃ p, l[k]? = some p := ⟨_, List.getElem?_eq_getElem hkl0⟩
  obtain ⟨L, hL⟩ : ∃ L, ds[k]? = some L := ⟨_, List.getElem?_eq_getElem (by rw [hD.1]; exact hkl0)⟩
  have hd := hD.2 k _ L hk hL
  obtain ⟨t, cap, hv, c1⟩ := ha.ptr hk
  obtain ⟨t2, cap2, hv2, c2, hlen⟩ := ha.dn hL
  rw [hD.1] at hv2
  have HLn := Lib.hid hd.dn
  have cX : Wa.cell? ⟨X, 1, none⟩ = some (.slice (some ⟨t, 0, none⟩) l.length cap) := by have := ha.cL; rw [hv] at this; exact this
  have cY : Wa.cell? ⟨X, 2, none⟩ = some (.slice (some ⟨t2, 0, none⟩) l.length cap2) := by have := ha.cW; rw [hv2] at this; exact this
  have HR0 := Lib.hid c2
  obtain ⟨Ad, nd, cd, Kd, hLe, hBd, hKd⟩ := hd
  obtain ⟨L2, hL2⟩ : ∃ L2, dnL q x.leaf Ad nd cd x.has x.val Kd = L2 := ⟨_, rfl⟩
  have HL2 := Lib.hid (show Dn L2 by rw [← hL2]; exact dn_is)
  have HDoc := Lib.hid (show DocOf w0 (l.map Prod.fst) { x with ow := q } L2 from ⟨Ad, nd, cd, Kd, hL2.symm, hBd, hKd⟩)
  have ewi : IntKind.i64.wrap i = i := by rw [IntKind.wrap_i64]; omega
  have nzl : ¬ ((l.length : Int) = 0) := by omega
  obtain ⟨dd, hdd⟩ : ∃ dd, d % 9 = dd := ⟨_, rfl⟩
  rw [hdd] at hd99 n0 n1
  have g0 : (dd == 0) = false := by simpa using n0
  have g1 : (dd == 1) = false := by simpa using n1
  have HZ := Lib.hid dn_zero
  generalize hzs : zeroN.toArray = zs at HZ
  go_enter Tryz.func6, Tryz.ntmps6
  go_upto_region 6 with fail
  try rw [hWa]
  go_quiet (fail)
  obtain ⟨U, hU⟩ : ∃ U, Wa.drewN nq = U := ⟨_, rfl⟩
  have beU : Below Wa.heap.size Wa U := by rw [← hU]; exact Still.below ⟨nq, rfl⟩ _
  have sU : U.heap.size = w.heap.size + 1 := by rw [← hU]; exact sa
  have hU1 := ha.on beU
  have HRU := Lib.hid (show U.rangeAt t2 (k * 261) L by
    obtain ⟨t', cap', hv', c1', _⟩ := hU1.dn hL
    rw [hD.1, hv2] at hv'
    injection hv' with e1 e2 e3
    injection e1 with e1
    injection e1 with e1
    rw [e1]; exact c1')
  have cYU : U.cell? ⟨X, 2, none⟩ = some (.slice (some ⟨t2, 0, none⟩) l.length cap2) := by have := hU1.cW; rw [hv2] at this; exact this
  obtain ⟨U2, hU2⟩ : ∃ U2, (U.alloc (.cells zs 59)).setCells (w.heap.size + 1) 0 L.toArray.toList = U2 := ⟨_, rfl⟩
  have lz : Lst (U.alloc (.cells zs 59)) (w.heap.size + 1) zeroN := by rw [← hzs, ← sU]; exact Blk.new U _ _
  have HTh := Lib.hid (Lst.there lz (o := 0) (n := L.toArray.size) (by rw [zeroN_length, List.size_toArray, hlen]; exact Nat.le_refl _))
  have lU2 : Lst U2 (w.heap.size + 1) L := by rw [← hU2]; exact dn_over lz zeroN_length HLn.out
  have beU2 : Below Wa.heap.size Wa U2 := by
    have q1 : Below U.heap.size U (U.alloc (.cells zs 59)) := (Below.refl _ _).alloc (Nat.le_refl _) _
    rw [← hU2]
    exact (beU.trans (q1.mono beU.size)).trans ((Kept.setCells (· = w.heap.size + 1) _ _ _ _ rfl).below (B := Wa.heap.size) (Nat.le_trans beU.size q1.size) (fun i e => by omega))
  obtain ⟨W2, hW2⟩ : ∃ W2, U2.setCell ⟨w.heap.size + 1, 0, none⟩ (.int .u64 q) = W2 := ⟨_, rfl⟩
  have lW2 : Lst W2 (w.heap.size + 1) L2 := by
    have := Lst.set1 lU2 0 (.int .u64 q)
    rw [hW2, hLe] at this
    rw [← hL2]
    exact this
  have beW2 : Below Wa.heap.size Wa W2 := by rw [← hW2]; exact beU2.trans ((Kept.set_ (D := (· = w.heap.size + 1)) _ ⟨w.heap.size + 1, 0, none⟩ _ rfl).below beU2.size (fun i e => by omega))
  have v0 : U2.cell? ⟨w.heap.size + 1, 0, none⟩ = some (.int .u64 x.ow) := by rw [Lst.at_ lU2, hLe]; rfl
  have v1 : U2.frozen? ⟨w.heap.size + 1, 0, none⟩ = false := Blk.fz lU2 _
  have HST := Lib.hid (Ws.start h (ba.trans (beW2.mono ba.size)) (na.below beW2 na.lt) lW2)
  have u0 : W2.cell? ⟨w.heap.size, 0, none⟩ = some (.int .u8 d) := HST.out.ls.cell 0
  have uX : W2.cell? ⟨X, 1, none⟩ = some (.slice (some ⟨t, 0, none⟩) l.length cap) := by have := HST.out.wb.cL; rw [hv] at this; exact this
  have uY : W2.cell? ⟨X, 2, none⟩ = some (.slice (some ⟨t2, 0, none⟩) l.length cap2) := by have := HST.out.wb.cW; rw [hv2] at this; exact this
  have uk : W2.cell? ⟨t, k, none⟩ = some (ptrN g) := by
    obtain ⟨t', cap', hv', c1'⟩ := HST.out.wb.ptr hk
    rw [hv] at hv'
    injection hv' with e1 e2 e3
    injection e1 with e1
    injection e1 with e1
    rw [e1]; exact c1'
  have HR2 := Lib.hid (show W2.rangeAt t2 (k * 261) L by
    obtain ⟨t', cap', hv', c1', _⟩ := HST.out.wb.dn hL
    rw [hD.1, hv2] at hv'
    injection hv' with e1 e2 e3
    injection e1 with e1
    injection e1 with e1
    rw [e1]; exact c1')
  have HU2 := Lib.hid hU2
  have HW2 := Lib.hid hW2
  have HHk := Lib.hid hk
  have HOw := Lib.hid (show L[0]? = some (.int .u64 x.ow) by rw [hLe]; rfl)
  have SU := Lib.hid sU
  have HVL := Lib.hid hv
  rw [hU]
  clear hU1 hU hU2 hW2 hzs lz lU2 beU beU2 lW2 beW2 hB ba sa na nsb ha hD h HW HN hk hL hlen hLe hL2 hBd hKd c1 c2 hv hv2 hWa cX cY f0 f1 f3 hit ewi nzl HR0 hq hq4 ewq
  go_upto_region 9 with (first
    | (refine wpList_load_mid rfl 59 (.tmp 72) rfl t2 (k * 261) (by go_simp) L _ HRU.out Tryz.underlying59 rfl HLn.out.sz ?_)
    | (refine wpList_alloc_z rfl 59 rfl zs HZ.out ?_; rw [SU.out])
    | (refine wpList_store_mid rfl 59 (.tmp 7) (.tmp 73) rfl (w.heap.size + 1) 0 L.toArray rfl rfl HTh.out HLn.out.szA HLn.out.all1 ?_; rw [HU2.out]))
  try rw [SU.out]
  rw [HW2.out]
  clear HRU cYU HTh HU2 HW2 HZ v0 v1 SU
  obtain rfl : dd = 2 := by omega
  go_upto_region 10 with fail
  have HST1 := Lib.hid (HST.out.on (show Below W2.heap.size W2 W2.drew from (Below.refl _ _).drew))
  have C1 := Lib.hid (HST1.out.nn.copy_ HHk.out HST1.out.wb.below.size HST1.out.hN (some X) (l.length : Int) q (mt_of HST1.out.wb.blk (by omega) (by omega)) (fun i e => by injection e with e; exact .inr (.inl (.inl e.symm))))
  rw [show mtr (some X) = ptrN X from rfl] at C1
  refine wp_region_held_drew (S := (fun w' => w'.rangeAt (w.heap.size + 1) 0 L2)) (by kernel_rfl) (Lst.all (show Lst W2.drew _ _ from HST.out.lg)) (fun hHeld => ?_)
  refine wpAnyH_take (i := 0) (oi := { dst := some 81, op := Op.move (Operand.tmp 0), type := 25, pos := "law.go:93", after := #[], guard := none }) (v := ?v38) rfl (by kernel_rfl) (by kernel_rfl) (by kernel_rfl) (fun _ _ _ h => h) (Or.inl ⟨by rfl, ?hy38⟩) hHeld ?rest38
  case hy38 => (intro w' hSw; (try dsimp only at hSw); go_simp; (try with_reducible rfl))
  try simp only [Act.put, List.setIfInBounds_toArray, List.set_cons_zero, List.set_cons_succ]
  refine wpAnyH_take (i := 1) (oi := { dst := some 82, op := Op.move (Operand.tmp 0), type := 25, pos := "law.go:93", after := #[], guard := none }) (v := ?v39) rfl (by kernel_rfl) (by kernel_rfl) (by kernel_rfl) (fun _ _ _ h => h) (Or.inl ⟨by rfl, ?hy39⟩) hHeld ?rest39
  case hy39 => (intro w' hSw; (try dsimp only at hSw); go_simp; (try with_reducible rfl))
  try simp only [Act.put, List.setIfInBounds_toArray, List.set_cons_zero, List.set_cons_succ]
  refine wpAnyH_take (i := 2) (oi := { dst := some 83, op := Op.nilCheck (Operand.tmp 82), type := 0, pos := "law.go:93", after := #[{ on := 1, ground := Ground.data }], guard := none }) (v := ?v40) rfl (by kernel_rfl) (by kernel_rfl) (by kernel_rfl) (fun _ _ _ h => h) (Or.inl ⟨by rfl, ?hy40⟩) hHeld ?rest40
  case hy40 => (intro w' hSw; (try dsimp only at hSw); go_simp; (try with_reducible rfl))
  try simp only [Act.put, List.setIfInBounds_toArray, List.set_cons_zero, List.set_cons_succ]
  refine wpAnyH_take (i := 3) (oi := { dst := some 84, op := Op.fieldAddr 36 (Operand.tmp 83) 1, type := 0, pos := "law.go:93", after := #[{ on := 2, ground := Ground.data }], guard := none }) (v := ?v41) rfl (by kernel_rfl) (by kernel_rfl) (by kernel_rfl) (fun _ _ _ h => h) (Or.inl ⟨by rfl, ?hy41⟩) hHeld ?rest41
  case hy41 => (intro w' hSw; (try dsimp only at hSw); go_simp; (try with_reducible rfl))
  try simp only [Act.put, List.setIfInBounds_toArray, List.set_cons_zero, List.set_cons_succ]
  refine wpAnyH_take (i := 5) (oi := { dst := some 86, op := Op.move (Operand.tmp 6), type := 3, pos := "law.go:93", after := #[], guard := none }) (v := ?v42) rfl (by kernel_rfl) (by kernel_rfl) (by kernel_rfl) (fun _ _ _ h => h) (Or.inl ⟨by rfl, ?hy42⟩) hHeld ?rest42
  case hy42 => (intro w' hSw; (try dsimp only at hSw); go_simp; (try with_reducible rfl))
  try simp only [Act.put, List.setIfInBounds_toArray, List.set_cons_zero, List.set_cons_succ]
  refine wpAnyH_take (i := 8) (oi := { dst := some 89, op := Op.move (Operand.tmp 0), type := 25, pos := "law.go:93", after := #[], guard := none }) (v := ?v43) rfl (by kernel_rfl) (by kernel_rfl) (by kernel_rfl) (fun _ _ _ h => h) (Or.inl ⟨by rfl, ?hy43⟩) hHeld ?rest43
  case hy43 => (intro w' hSw; (try dsimp only at hSw); go_simp; (try with_reducible rfl))
  try simp only [Act.put, List.setIfInBounds_toArray, List.set_cons_zero, List.set_cons_succ]
  refine wpAnyH_take (i := 9) (oi := { dst := some 90, op := Op.nilCheck (Operand.tmp 89), type := 0, pos := "law.go:93", after := #[{ on := 8, ground := Ground.data }], guard := none }) (v := ?v44) rfl (by kernel_rfl) (by kernel_rfl) (by kernel_rfl) (fun _ _ _ h => h) (Or.inl ⟨by rfl, ?hy44⟩) hHeld ?rest44
  case hy44 => (intro w' hSw; (try dsimp only at hSw); go_simp; (try with_reducible rfl))
  try simp only [Act.put, List.setIfInBounds_toArray, List.set_cons_zero, List.set_cons_succ]
  refine wpAnyH_take (i := 10) (oi := { dst := some 91, op := Op.fieldAddr 36 (Operand.tmp 90) 0, type := 0, pos := "law.go:93", after := #[{ on := 9, ground := Ground.data }], guard := none }) (v := ?v45) rfl (by kernel_rfl) (by kernel_rfl) (by kernel_rfl) (fun _ _ _ h => h) (Or.inl ⟨by rfl, ?hy45⟩) hHeld ?rest45
  case hy45 => (intro w' hSw; (try dsimp only at hSw); go_simp; (try with_reducible rfl))
  try simp only [Act.put, List.setIfInBounds_toArray, List.set_cons_zero, List.set_cons_succ]
  refine wpAnyH_take (i := 11) (oi := { dst := some 92, op := Op.move (Operand.tmp 5), type := 39, pos := "law.go:93", after := #[], guard := none }) (v := ?v46) rfl (by kernel_rfl) (by kernel_rfl) (by kernel_rfl) (fun _ _ _ h => h) (Or.inl ⟨by rfl, ?hy46⟩) hHeld ?rest46
  case hy46 => (intro w' hSw; (try dsimp only at hSw); go_simp; (try with_reducible rfl))
  try simp only [Act.put, List.setIfInBounds_toArray, List.set_cons_zero, List.set_cons_succ]
  refine wpAnyH_take (i := 13) (oi := { dst := some 94, op := Op.load 59 (Operand.tmp 7), type := 59, pos := "law.go:93", after := #[], guard := none }) (v := .agg L2.toArray) rfl (by kernel_rfl) (by kernel_rfl) (by kernel_rfl) (fun _ _ _ h => h) (yieldsIf_load_mid (by rfl) 59 (.tmp 7) rfl (w.heap.size + 1) 0 (by rfl) L2 _ (fun _ h => h) Tryz.underlying59 rfl HL2.out.sz) hHeld ?_
  try simp only [Act.put, List.setIfInBounds_toArray, List.set_cons_zero, List.set_cons_succ]
  refine wpAnyH_ready (rs := [4]) (by kernel_rfl) (by simp) (AllReadyH.cons (o := { dst := some 85, op := Op.load 33 (Operand.tmp 84), type := 33, pos := "law.go:93", after := #[{ on := 3, ground := Ground.data }], guard := none }) rfl (fun K hK => ?_) AllReadyH.nil)
  go_simp
  refine hK.out _ _ (Lst.all (show Lst W2.drew _ _ from HST.out.lg)) (fun hHeld' => ?_)
  clear hK K hHeld
  have hHeld := hHeld'
  clear hHeld'
  try simp only [Act.put, List.setIfInBounds_toArray, List.set_cons_zero, List.set_cons_succ]
  refine wpAnyH_take (i := 6) (oi := { dst := some 87, op := Op.indexAddr 33 (Operand.tmp 85) (Operand.tmp 86), type := 0, pos := "law.go:93", after := #[{ on := 4, ground := Ground.data }, { on := 5, ground := Ground.data }], guard := none }) (v := .pointer (some ⟨t, k, none⟩)) rfl (by kernel_rfl) (by kernel_rfl) (by kernel_rfl) (fun _ _ _ h => h) (Or.inl ⟨by rfl, ?hyV⟩) hHeld ?_
  case hyV => (intro w' hSw; (try dsimp only at hSw); go_simp; (try rw [if_pos ⟨by omega, hkl⟩]); (try simp only [Int.toNat_natCast, Nat.mul_one, Nat.zero_add]); (try rfl))
  try simp only [Act.put, List.setIfInBounds_toArray, List.set_cons_zero, List.set_cons_succ]
  refine wpAnyH_ready (rs := [7]) (by kernel_rfl) (by simp) (AllReadyH.cons (o := { dst := some 88, op := Op.load 46 (Operand.tmp 87), type := 46, pos := "law.go:93", after := #[{ on := 6, ground := Ground.data }], guard := none }) rfl (fun K hK => ?_) AllReadyH.nil)
  go_simp
  refine hK.out _ _ (Lst.all (show Lst W2.drew _ _ from HST.out.lg)) (fun hHeld' => ?_)
  clear hK K hHeld
  have hHeld := hHeld'
  clear hHeld'
  try simp only [Act.put, List.setIfInBounds_toArray, List.set_cons_zero, List.set_cons_succ]
  refine wpAnyH_ready (rs := [12]) (by kernel_rfl) (by simp) (AllReadyH.cons (o := { dst := some 93, op := Op.call { callee := Callee.value (Operand.func 18), args := #[Operand.tmp 88, Operand.tmp 91, Operand.tmp 92], argTypes := #[46, 48, 39] }, type := 46, pos := "law.go:93", after := #[{ on := 7, ground := Ground.data }, { on := 10, ground := Ground.data }, { on := 11, ground := Ground.data }], guard := none }) rfl (fun K hK => ?_) AllReadyH.nil)
  go_simp
  (with_reducible refine C1.out.mono ?_)
  rintro e w2 ⟨g2, rfl, nn, kk, cc⟩
  have HM2 := Lib.hid (HST1.out.wb.made (nn.more (fun i q => .inl (.inl q))) kk (cc _ rfl))
  have HG2 := Lib.hid (kk.blk HST1.out.lg (fun e => by injection e with e; exact HST.out.ne.1 (.inl e.symm)))
  clear nn kk cc C1
  go_wp2_with fail
  refine hK.out _ _ (Lst.all HG2.out) (fun hHeld' => ?_)
  clear hK K hHeld
  have hHeld := hHeld'
  clear hHeld'
  try simp only [Act.put, List.setIfInBounds_toArray, List.set_cons_zero, List.set_cons_succ]
  refine wpAnyH_ready (rs := [14]) (by kernel_rfl) (by simp) (AllReadyH.cons (o := { dst := some 95, op := Op.call { callee := Callee.value (Operand.func 17), args := #[Operand.tmp 81, Operand.tmp 93, Operand.tmp 94], argTypes := #[25, 46, 59] }, type := 4, pos := "law.go:93", after := #[{ on := 0, ground := Ground.data }, { on := 12, ground := Ground.data }, { on := 13, ground := Ground.data }, { on := 12, ground := Ground.chain }], guard := none }) rfl (fun K hK => ?_) AllReadyH.nil)
  go_simp
  (with_reducible refine (wfresh_any HM2.out L2 HL2.out (by omega) (by omega) (by have := HDL.out; omega)).mono ?_)
  rintro e w3 ⟨rfl, vl', vw', hb', kf⟩
  have HB3 := Lib.hid (kf.blk HG2.out (fun q => HST.out.ne.1 q))
  have HE := Lib.hid (show StPost fb w0 X l (.returned (.bool true)) w3 from ⟨rfl, l ++ [(g2, { x with ow := q })], ds ++ [L2], ⟨vl', vw', by simpa using hb', HHD.out.more HDoc.out⟩, by simp, by simp, by simp⟩)
  clear hb' kf
  go_wp2_with fail
  refine hK.out _ _ (Lst.all HB3.out) (fun hHeld' => ?_)
  clear hK K hHeld
  have hHeld := hHeld'
  clear hHeld'
  try simp only [Act.put, List.setIfInBounds_toArray, List.set_cons_zero, List.set_cons_succ]
  refine wpAnyH_take (i := 15) (oi := { dst := some 4, op := Op.assign (Operand.tmp 95), type := 4, pos := "law.go:93", after := #[{ on := 14, ground := Ground.data }, { on := 14, ground := Ground.chain }, { on := 0, ground := Ground.phase }, { on := 1, ground := Ground.phase }, { on := 2, ground := Ground.phase }, { on := 3, ground := Ground.phase }, { on := 4, ground := Ground.phase }, { on := 5, ground := Ground.phase }, { on := 6, ground := Ground.phase }, { on := 7, ground := Ground.phase }, { on := 8, ground := Ground.phase }, { on := 9, ground := Ground.phase }, { on := 10, ground := Ground.phase }, { on := 11, ground := Ground.phase }, { on := 12, ground := Ground.phase }, { on := 13, ground := Ground.phase }, { on := 14, ground := Ground.phase }], guard := none }) (v := ?v47) rfl (by kernel_rfl) (by kernel_rfl) (by kernel_rfl) (fun _ _ _ h => h) (Or.inl ⟨by rfl, ?hy47⟩) hHeld ?rest47
  case hy47 => (intro w' hSw; (try dsimp only at hSw); go_simp; (try with_reducible rfl))
  try simp only [Act.put, List.setIfInBounds_toArray, List.set_cons_zero, List.set_cons_succ]
  refine wpAnyH_done (by kernel_rfl) ?_ _
  go_wp2
  go_ret
  exact HE.out

end Go.Proofs.YtgelmhldicmmdaaGreat

namespace Go.Proofs.YtgelmhldicmmdaaGreat
open Go.RowKit

set_option linter.unusedSimpArgs false in
set_option maxRecDepth 100000 in
set_option maxHeartbeats 8000000 in
theorem wstep_yes {fb : FB} {w0 w : World} {X : Nat} {l : List (Nat × Nd)} {ds : List (List Value)} (h : Wst fb w0 w X l ds) (hf : l.length ≤ 900)
    (d i j o v : Int) (b : UInt8) (A : Option Addr) (n c : Nat) (p : List UInt8) (hB : ∀ V, Below w0.heap.size w0 V → Byt V w0.heap.size A n p) (hn : n ≤ 140737488351232) (ho : 0 ≤ o ∧ o ≤ 255) (hd0 : 0 ≤ d) (hi0 : 0 ≤ i ∧ i ≤ 65535) (hj0 : 0 ≤ j ∧ j ≤ 65535) (n0 : ¬ d % 9 = 0) (n1 : ¬ d % 9 = 1) (hpos : 0 < l.length) (h3 : d % 9 = 3) (hmi : ∀ g x, l[(i % (l.length : Int)).toNat]? = some (g, x) → mineB x.ow (o % 4) = true) :
    Calls Tryz.prog 6 #[ptrN X, .agg #[.int .u8 d, .int .u16 i, .int .u16 j, .int .u8 o, .int .u8 (b.toNat : Int), .slice A n c, .int .u64 v]] w (StPost fb w0 X l) := by
  have HFN := Lib.hid (And.intro hf (And.intro hn (And.intro hi0 hj0)))
  obtain ⟨vl, vw, h, hD⟩ := h
  obtain ⟨Wa, hWa⟩ : ∃ Wa, w.alloc (.cells #[.int .u8 d, .int .u16 i, .int .u16 j, .int .u8 o, .int .u8 (b.toNat : Int), .slice A n c, .int .u64 v] 41) = Wa := ⟨_, rfl⟩
  have ba : Below w.heap.size w Wa := by rw [← hWa]; exact (Below.refl _ _).alloc (Nat.le_refl _) _
  have sa : Wa.heap.size = w.heap.size + 1 := by rw [← hWa]; simp
  have na : Blk Wa w.heap.size #[.int .u8 d, .int .u16 i, .int .u16 j, .int .u8 o, .int .u8 (b.toNat : Int), .slice A n c, .int .u64 v] := by rw [← hWa]; exact Blk.new w _ _
  have nsb : ¬ NX fb X vl vw w.heap.size := fun q => by have := h.lt _ q; omega
  have ha := h.on ba
  obtain ⟨q, hq⟩ : ∃ q : Int, o % 4 = q := ⟨_, rfl⟩
  have hq4 : o.tmod 4 = o % 4 := Int.tmod_eq_emod_of_nonneg ho.1
  have ewq : IntKind.u64.wrap q = q := by simp [IntKind.wrap, IntKind.bits, IntKind.signed]; omega
  have hd99 : d.tmod 9 = d % 9 := Int.tmod_eq_emod_of_nonneg hd0
  have HW := Lib.hid ha
  have HN := Lib.hid na
  have HHD := Lib.hid hD
  have HDL := Lib.hid (show ds.length = l.length from hD.1)
  have HPB := Lib.hid hB
  have NSB := Lib.hid nsb
  have HXlo := Lib.hid h.lo
  have f0 : Wa.cell? ⟨w.heap.size, 0, none⟩ = some (.int .u8 d) := na.cell 0
  have f1 : Wa.cell? ⟨w.heap.size, 1, none⟩ = some (.int .u16 i) := na.cell 1
  have f3 : Wa.cell? ⟨w.heap.size, 3, none⟩ = some (.int .u8 o) := na.cell 3
  obtain ⟨k, hki⟩ : ∃ k : Nat, i % (l.length : Int) = (k : Int) := ⟨(i % (l.length : Int)).toNat, by have := Int.emod_nonneg i (show (l.length : Int) ≠ 0 by omega); omega⟩
  have hkl0 : k < l.length := by have := Int.emod_lt_of_pos i (show (0 : Int) < (l.length : Int) by omega); omega
  have hkl : (k : Int) < (l.length : Int) := by omega
  have hit : i.tmod (l.length : Int) = (k : Int) := by rw [Int.tmod_eq_emod_of_nonneg hi0.1]; exact hki
  obtain ⟨⟨g, x⟩, hk⟩ : ∃ p, l[k]? = some p := ⟨_, List.getElem?_eq_getElem hkl0⟩
  have hmi := hmi g x (by rw [hki]; exact hk)
  rw [hq] at hmi
  obtain ⟨L, hL⟩ : ∃ L, ds[k]? = some L := ⟨_, List.getElem?_eq_getElem (by rw [hD.1]; exact hkl0)⟩
  have hd := hD.2 k _ L hk hL
  obtain ⟨t, cap, hv, c1⟩ := ha.ptr hk
  obtain ⟨t2, cap2, hv2, c2, hlen⟩ := ha.dn hL
  rw [hD.1] at hv2
  have HLn := Lib.hid hd.dn
  have cX : Wa.cell? ⟨X, 1, none⟩ = some (.slice (some ⟨t, 0, none⟩) l.length cap) := by have := ha.cL; rw [hv] at this; exact this
  have cY : Wa.cell? ⟨X, 2, none⟩ = some (.slice (some ⟨t2, 0, none⟩) l.length cap2) := by have := ha.cW; rw [hv2] at this; exact this
  have HR0 := Lib.hid c2
  obtain ⟨Ad, nd, cd, Kd, hLe, hBd, hKd⟩ := hd
  obtain ⟨L2, hL2⟩ : ∃ L2, dnL q x.leaf Ad nd cd x.has x.val Kd = L2 := ⟨_, rfl⟩
  have HL2 := Lib.hid (show Dn L2 by rw [← hL2]; exact dn_is)
  have HDoc := Lib.hid (show DocOf w0 (l.map Prod.fst) { x with ow := q } L2 from ⟨Ad, nd, cd, Kd, hL2.symm, hBd, hKd⟩)
  have ewi : IntKind.i64.wrap i = i := by rw [IntKind.wrap_i64]; omega
  have nzl : ¬ ((l.length : Int) = 0) := by omega
  obtain ⟨dd, hdd⟩ : ∃ dd, d % 9 = dd := ⟨_, rfl⟩
  rw [hdd] at hd99 n0 n1
  have g0 : (dd == 0) = false := by simpa using n0
  have g1 : (dd == 1) = false := by simpa using n1
  have HZ := Lib.hid dn_zero
  generalize hzs : zeroN.toArray = zs at HZ
  go_enter Tryz.func6, Tryz.ntmps6
  go_upto_region 6 with fail
  try rw [hWa]
  go_quiet (fail)
  obtain ⟨U, hU⟩ : ∃ U, Wa.drewN nq = U := ⟨_, rfl⟩
  have beU : Below Wa.heap.size Wa U := by rw [← hU]; exact Still.below ⟨nq, rfl⟩ _
  have sU : U.heap.size = w.heap.size + 1 := by rw [← hU]; exact sa
  have hU1 := ha.on beU
  have HRU := Lib.hid (show U.rangeAt t2 (k * 261) L by
    obtain ⟨t', cap', hv', c1', _⟩ := hU1.dn hL
    rw [hD.1, hv2] at hv'
    injection hv' with e1 e2 e3
    injection e1 with e1
    injection e1 with e1
    rw [e1]; exact c1')
  have cYU : U.cell? ⟨X, 2, none⟩ = some (.slice (some ⟨t2, 0, none⟩) l.length cap2) := by have := hU1.cW; rw [hv2] at this; exact this
  obtain ⟨U2, hU2⟩ : ∃ U2, (U.alloc (.cells zs 59)).setCells (w.heap.size + 1) 0 L.toArray.toList = U2 := ⟨_, rfl⟩
  have lz : Lst (U.alloc (.cells zs 59)) (w.heap.size + 1) zeroN := by rw [← hzs, ← sU]; exact Blk.new U _ _
  have HTh := Lib.hid (Lst.there lz (o := 0) (n := L.toArray.size) (by rw [zeroN_length, List.size_toArray, hlen]; exact Nat.le_refl _))
  have lU2 : Lst U2 (w.heap.size + 1) L := by rw [← hU2]; exact dn_over lz zeroN_length HLn.out
  have beU2 : Below Wa.heap.size Wa U2 := by
    have q1 : Below U.heap.size U (U.alloc (.cells zs 59)) := (Below.refl _ _).alloc (Nat.le_refl _) _
    rw [← hU2]
    exact (beU.trans (q1.mono beU.size)).trans ((Kept.setCells (· = w.heap.size + 1) _ _ _ _ rfl).below (B := Wa.heap.size) (Nat.le_trans beU.size q1.size) (fun i e => by omega))
  obtain ⟨W2, hW2⟩ : ∃ W2, U2.setCell ⟨w.heap.size + 1, 0, none⟩ (.int .u64 q) = W2 := ⟨_, rfl⟩
  have lW2 : Lst W2 (w.heap.size + 1) L2 := by
    have := Lst.set1 lU2 0 (.int .u64 q)
    rw [hW2, hLe] at this
    rw [← hL2]
    exact this
  have beW2 : Below Wa.heap.size Wa W2 := by rw [← hW2]; exact beU2.trans ((Kept.set_ (D := (· = w.heap.size + 1)) _ ⟨w.heap.size + 1, 0, none⟩ _ rfl).below beU2.size (fun i e => by omega))
  have v0 : U2.cell? ⟨w.heap.size + 1, 0, none⟩ = some (.int .u64 x.ow) := by rw [Lst.at_ lU2, hLe]; rfl
  have v1 : U2.frozen? ⟨w.heap.size + 1, 0, none⟩ = false := Blk.fz lU2 _
  have HST := Lib.hid (Ws.start h (ba.trans (beW2.mono ba.size)) (na.below beW2 na.lt) lW2)
  have u0 : W2.cell? ⟨w.heap.size, 0, none⟩ = some (.int .u8 d) := HST.out.ls.cell 0
  have uX : W2.cell? ⟨X, 1, none⟩ = some (.slice (some ⟨t, 0, none⟩) l.length cap) := by have := HST.out.wb.cL; rw [hv] at this; exact this
  have uY : W2.cell? ⟨X, 2, none⟩ = some (.slice (some ⟨t2, 0, none⟩) l.length cap2) := by have := HST.out.wb.cW; rw [hv2] at this; exact this
  have uk : W2.cell? ⟨t, k, none⟩ = some (ptrN g) := by
    obtain ⟨t', cap', hv', c1'⟩ := HST.out.wb.ptr hk
    rw [hv] at hv'
    injection hv' with e1 e2 e3
    injection e1 with e1
    injection e1 with e1
    rw [e1]; exact c1'
  have HR2 := Lib.hid (show W2.rangeAt t2 (k * 261) L by
    obtain ⟨t', cap', hv', c1', _⟩ := HST.out.wb.dn hL
    rw [hD.1, hv2] at hv'
    injection hv' with e1 e2 e3
    injection e1 with e1
    injection e1 with e1
    rw [e1]; exact c1')
  have HU2 := Lib.hid hU2
  have HW2 := Lib.hid hW2
  have HHk := Lib.hid hk
  have HOw := Lib.hid (show L[0]? = some (.int .u64 x.ow) by rw [hLe]; rfl)
  have SU := Lib.hid sU
  have HVL := Lib.hid hv
  rw [hU]
  clear hU1 hU hU2 hW2 hzs lz lU2 beU beU2 lW2 beW2 hB ba sa na nsb ha hD h HW HN hk hL hlen hLe hL2 hBd hKd c1 c2 hv hv2 hWa cX cY f0 f1 f3 hit ewi nzl HR0 hq hq4 ewq
  go_upto_region 9 with (first
    | (refine wpList_load_mid rfl 59 (.tmp 72) rfl t2 (k * 261) (by go_simp) L _ HRU.out Tryz.underlying59 rfl HLn.out.sz ?_)
    | (refine wpList_alloc_z rfl 59 rfl zs HZ.out ?_; rw [SU.out])
    | (refine wpList_store_mid rfl 59 (.tmp 7) (.tmp 73) rfl (w.heap.size + 1) 0 L.toArray rfl rfl HTh.out HLn.out.szA HLn.out.all1 ?_; rw [HU2.out]))
  try rw [SU.out]
  rw [HW2.out]
  clear HRU cYU HTh HU2 HW2 HZ v0 v1 SU
  obtain rfl : dd = 3 := by omega
  go_upto_region 12 with (first
    | (refine wpList_load_met (by kernel_rfl) 59 (.tmp 107) rfl t2 (k * 261) (by go_simp) L _ HR2.out Tryz.underlying59 rfl HLn.out.sz ?_)
    | ((with_reducible refine (rmine_any L x.ow q HOw.out W2).mono ?_); rintro e w4 ⟨rfl, b4⟩; rw [hmi]; have HST4 := Lib.hid (HST.out.on b4); have z0 : w4.cell? ⟨w.heap.size, 0, none⟩ = some (.int .u8 d) := HST4.out.ls.cell 0; clear b4))
  have yX : w4.cell? ⟨X, 1, none⟩ = some (.slice (some ⟨t, 0, none⟩) l.length cap) := by have := HST4.out.wb.cL; rw [HVL.out] at this; exact this
  have yk : w4.cell? ⟨t, k, none⟩ = some (ptrN g) := by
    obtain ⟨t', cap', hv', c1'⟩ := HST4.out.wb.ptr HHk.out
    rw [HVL.out] at hv'
    injection hv' with e1 e2 e3
    injection e1 with e1
    injection e1 with e1
    rw [e1]; exact c1'
  have HSD := Lib.hid (HST4.out.on (show Below w4.heap.size w4 w4.drew from (Below.refl _ _).drew))
  obtain ⟨bb, AA, hn⟩ := HSD.out.nn.at_ HHk.out
  have C1 := Lib.hid (nown_yes hn (mtr (some X)) q hmi)
  rw [show mtr (some X) = ptrN X from rfl] at C1
  clear hn
  have HQ := Lib.hid (show StPost fb w0 X l (.returned (.bool true)) w4.drew from ⟨rfl, l, ds, ⟨_, _, HST4.out.wb.on (Below.refl _ _).drew, HHD.out⟩, Nat.le_refl _, by omega, by omega⟩)
  have hqs := eql_self (some ⟨g, 0, none⟩)
  refine wp_region_held_drew (S := (fun w' => w'.cell? ⟨X, 1, none⟩ = some (.slice (some ⟨t, 0, none⟩) l.length cap) ∧ w'.cell? ⟨t, k, none⟩ = some (ptrN g))) (by kernel_rfl) ⟨yX, yk⟩ (fun hHeld => ?_)
  refine wpAnyH_take (i := 0) (oi := { dst := some 112, op := Op.move (Operand.tmp 0), type := 25, pos := "law.go:95", after := #[], guard := none }) (v := ?v48) rfl (by kernel_rfl) (by kernel_rfl) (by kernel_rfl) (fun _ _ _ h => h) (Or.inl ⟨by rfl, ?hy48⟩) hHeld ?rest48
  case hy48 => (intro w' hSw; (try dsimp only at hSw); go_simp; (try with_reducible rfl))
  try simp only [Act.put, List.setIfInBounds_toArray, List.set_cons_zero, List.set_cons_succ]
  refine wpAnyH_take (i := 1) (oi := { dst := some 113, op := Op.nilCheck (Operand.tmp 112), type := 0, pos := "law.go:95", after := #[{ on := 0, ground := Ground.data }], guard := none }) (v := ?v49) rfl (by kernel_rfl) (by kernel_rfl) (by kernel_rfl) (fun _ _ _ h => h) (Or.inl ⟨by rfl, ?hy49⟩) hHeld ?rest49
  case hy49 => (intro w' hSw; (try dsimp only at hSw); go_simp; (try with_reducible rfl))
  try simp only [Act.put, List.setIfInBounds_toArray, List.set_cons_zero, List.set_cons_succ]
  refine wpAnyH_take (i := 2) (oi := { dst := some 114, op := Op.fieldAddr 36 (Operand.tmp 113) 1, type := 0, pos := "law.go:95", after := #[{ on := 1, ground := Ground.data }], guard := none }) (v := ?v50) rfl (by kernel_rfl) (by kernel_rfl) (by kernel_rfl) (fun _ _ _ h => h) (Or.inl ⟨by rfl, ?hy50⟩) hHeld ?rest50
  case hy50 => (intro w' hSw; (try dsimp only at hSw); go_simp; (try with_reducible rfl))
  try simp only [Act.put, List.setIfInBounds_toArray, List.set_cons_zero, List.set_cons_succ]
  refine wpAnyH_take (i := 3) (oi := { dst := some 115, op := Op.load 33 (Operand.tmp 114), type := 33, pos := "law.go:95", after := #[{ on := 2, ground := Ground.data }], guard := none }) (v := ?v51) rfl (by kernel_rfl) (by kernel_rfl) (by kernel_rfl) (fun _ _ _ h => h) (Or.inl ⟨by rfl, ?hy51⟩) hHeld ?rest51
  case hy51 => (intro w' hSw; (try dsimp only at hSw); go_simp; (try with_reducible rfl))
  try simp only [Act.put, List.setIfInBounds_toArray, List.set_cons_zero, List.set_cons_succ]
  refine wpAnyH_take (i := 4) (oi := { dst := some 116, op := Op.move (Operand.tmp 6), type := 3, pos := "law.go:95", after := #[], guard := none }) (v := ?v52) rfl (by kernel_rfl) (by kernel_rfl) (by kernel_rfl) (fun _ _ _ h => h) (Or.inl ⟨by rfl, ?hy52⟩) hHeld ?rest52
  case hy52 => (intro w' hSw; (try dsimp only at hSw); go_simp; (try with_reducible rfl))
  try simp only [Act.put, List.setIfInBounds_toArray, List.set_cons_zero, List.set_cons_succ]
  refine wpAnyH_take (i := 5) (oi := { dst := some 117, op := Op.indexAddr 33 (Operand.tmp 115) (Operand.tmp 116), type := 0, pos := "law.go:95", after := #[{ on := 3, ground := Ground.data }, { on := 4, ground := Ground.data }], guard := none }) (v := .pointer (some ⟨t, k, none⟩)) rfl (by kernel_rfl) (by kernel_rfl) (by kernel_rfl) (fun _ _ _ h => h) (Or.inl ⟨by rfl, ?hyV⟩) hHeld ?_
  case hyV => (intro w' hSw; (try dsimp only at hSw); go_simp; (try rw [if_pos ⟨by omega, hkl⟩]); (try simp only [Int.toNat_natCast, Nat.mul_one, Nat.zero_add]); (try rfl))
  try simp only [Act.put, List.setIfInBounds_toArray, List.set_cons_zero, List.set_cons_succ]
  refine wpAnyH_take (i := 6) (oi := { dst := some 118, op := Op.load 46 (Operand.tmp 117), type := 46, pos := "law.go:95", after := #[{ on := 5, ground := Ground.data }], guard := none }) (v := ?v53) rfl (by kernel_rfl) (by kernel_rfl) (by kernel_rfl) (fun _ _ _ h => h) (Or.inl ⟨by rfl, ?hy53⟩) hHeld ?rest53
  case hy53 => (intro w' hSw; (try dsimp only at hSw); go_simp; (try with_reducible rfl))
  try simp only [Act.put, List.setIfInBounds_toArray, List.set_cons_zero, List.set_cons_succ]
  refine wpAnyH_take (i := 7) (oi := { dst := some 119, op := Op.move (Operand.tmp 0), type := 25, pos := "law.go:95", after := #[], guard := none }) (v := ?v54) rfl (by kernel_rfl) (by kernel_rfl) (by kernel_rfl) (fun _ _ _ h => h) (Or.inl ⟨by rfl, ?hy54⟩) hHeld ?rest54
  case hy54 => (intro w' hSw; (try dsimp only at hSw); go_simp; (try with_reducible rfl))
  try simp only [Act.put, List.setIfInBounds_toArray, List.set_cons_zero, List.set_cons_succ]
  refine wpAnyH_take (i := 8) (oi := { dst := some 120, op := Op.nilCheck (Operand.tmp 119), type := 0, pos := "law.go:95", after := #[{ on := 7, ground := Ground.data }], guard := none }) (v := ?v55) rfl (by kernel_rfl) (by kernel_rfl) (by kernel_rfl) (fun _ _ _ h => h) (Or.inl ⟨by rfl, ?hy55⟩) hHeld ?rest55
  case hy55 => (intro w' hSw; (try dsimp only at hSw); go_simp; (try with_reducible rfl))
  try simp only [Act.put, List.setIfInBounds_toArray, List.set_cons_zero, List.set_cons_succ]
  refine wpAnyH_take (i := 9) (oi := { dst := some 121, op := Op.fieldAddr 36 (Operand.tmp 120) 0, type := 0, pos := "law.go:95", after := #[{ on := 8, ground := Ground.data }], guard := none }) (v := ?v56) rfl (by kernel_rfl) (by kernel_rfl) (by kernel_rfl) (fun _ _ _ h => h) (Or.inl ⟨by rfl, ?hy56⟩) hHeld ?rest56
  case hy56 => (intro w' hSw; (try dsimp only at hSw); go_simp; (try with_reducible rfl))
  try simp only [Act.put, List.setIfInBounds_toArray, List.set_cons_zero, List.set_cons_succ]
  refine wpAnyH_take (i := 10) (oi := { dst := some 122, op := Op.move (Operand.tmp 5), type := 39, pos := "law.go:95", after := #[], guard := none }) (v := ?v57) rfl (by kernel_rfl) (by kernel_rfl) (by kernel_rfl) (fun _ _ _ h => h) (Or.inl ⟨by rfl, ?hy57⟩) hHeld ?rest57
  case hy57 => (intro w' hSw; (try dsimp only at hSw); go_simp; (try with_reducible rfl))
  try simp only [Act.put, List.setIfInBounds_toArray, List.set_cons_zero, List.set_cons_succ]
  refine wpAnyH_take (i := 12) (oi := { dst := some 124, op := Op.move (Operand.tmp 0), type := 25, pos := "law.go:95", after := #[], guard := none }) (v := ?v58) rfl (by kernel_rfl) (by kernel_rfl) (by kernel_rfl) (fun _ _ _ h => h) (Or.inl ⟨by rfl, ?hy58⟩) hHeld ?rest58
  case hy58 => (intro w' hSw; (try dsimp only at hSw); go_simp; (try with_reducible rfl))
  try simp only [Act.put, List.setIfInBounds_toArray, List.set_cons_zero, List.set_cons_succ]
  refine wpAnyH_take (i := 13) (oi := { dst := some 125, op := Op.nilCheck (Operand.tmp 124), type := 0, pos := "law.go:95", after := #[{ on := 12, ground := Ground.data }], guard := none }) (v := ?v59) rfl (by kernel_rfl) (by kernel_rfl) (by kernel_rfl) (fun _ _ _ h => h) (Or.inl ⟨by rfl, ?hy59⟩) hHeld ?rest59
  case hy59 => (intro w' hSw; (try dsimp only at hSw); go_simp; (try with_reducible rfl))
  try simp only [Act.put, List.setIfInBounds_toArray, List.set_cons_zero, List.set_cons_succ]
  refine wpAnyH_take (i := 14) (oi := { dst := some 126, op := Op.fieldAddr 36 (Operand.tmp 125) 1, type := 0, pos := "law.go:95", after := #[{ on := 13, ground := Ground.data }], guard := none }) (v := ?v60) rfl (by kernel_rfl) (by kernel_rfl) (by kernel_rfl) (fun _ _ _ h => h) (Or.inl ⟨by rfl, ?hy60⟩) hHeld ?rest60
  case hy60 => (intro w' hSw; (try dsimp only at hSw); go_simp; (try with_reducible rfl))
  try simp only [Act.put, List.setIfInBounds_toArray, List.set_cons_zero, List.set_cons_succ]
  refine wpAnyH_take (i := 15) (oi := { dst := some 127, op := Op.load 33 (Operand.tmp 126), type := 33, pos := "law.go:95", after := #[{ on := 14, ground := Ground.data }], guard := none }) (v := ?v61) rfl (by kernel_rfl) (by kernel_rfl) (by kernel_rfl) (fun _ _ _ h => h) (Or.inl ⟨by rfl, ?hy61⟩) hHeld ?rest61
  case hy61 => (intro w' hSw; (try dsimp only at hSw); go_simp; (try with_reducible rfl))
  try simp only [Act.put, List.setIfInBounds_toArray, List.set_cons_zero, List.set_cons_succ]
  refine wpAnyH_take (i := 16) (oi := { dst := some 128, op := Op.move (Operand.tmp 6), type := 3, pos := "law.go:95", after := #[], guard := none }) (v := ?v62) rfl (by kernel_rfl) (by kernel_rfl) (by kernel_rfl) (fun _ _ _ h => h) (Or.inl ⟨by rfl, ?hy62⟩) hHeld ?rest62
  case hy62 => (intro w' hSw; (try dsimp only at hSw); go_simp; (try with_reducible rfl))
  try simp only [Act.put, List.setIfInBounds_toArray, List.set_cons_zero, List.set_cons_succ]
  refine wpAnyH_take (i := 17) (oi := { dst := some 129, op := Op.indexAddr 33 (Operand.tmp 127) (Operand.tmp 128), type := 0, pos := "law.go:95", after := #[{ on := 15, ground := Ground.data }, { on := 16, ground := Ground.data }], guard := none }) (v := .pointer (some ⟨t, k, none⟩)) rfl (by kernel_rfl) (by kernel_rfl) (by kernel_rfl) (fun _ _ _ h => h) (Or.inl ⟨by rfl, ?hyV⟩) hHeld ?_
  case hyV => (intro w' hSw; (try dsimp only at hSw); go_simp; (try rw [if_pos ⟨by omega, hkl⟩]); (try simp only [Int.toNat_natCast, Nat.mul_one, Nat.zero_add]); (try rfl))
  try simp only [Act.put, List.setIfInBounds_toArray, List.set_cons_zero, List.set_cons_succ]
  refine wpAnyH_take (i := 18) (oi := { dst := some 130, op := Op.load 46 (Operand.tmp 129), type := 46, pos := "law.go:95", after := #[{ on := 17, ground := Ground.data }], guard := none }) (v := ?v63) rfl (by kernel_rfl) (by kernel_rfl) (by kernel_rfl) (fun _ _ _ h => h) (Or.inl ⟨by rfl, ?hy63⟩) hHeld ?rest63
  case hy63 => (intro w' hSw; (try dsimp only at hSw); go_simp; (try with_reducible rfl))
  try simp only [Act.put, List.setIfInBounds_toArray, List.set_cons_zero, List.set_cons_succ]
  refine wpAnyH_ready (rs := [11]) (by kernel_rfl) (by simp) (AllReadyH.cons (o := { dst := some 123, op := Op.call { callee := Callee.value (Operand.func 20), args := #[Operand.tmp 118, Operand.tmp 121, Operand.tmp 122], argTypes := #[46, 48, 39] }, type := 46, pos := "law.go:95", after := #[{ on := 6, ground := Ground.data }, { on := 9, ground := Ground.data }, { on := 10, ground := Ground.data }], guard := none }) rfl (fun K hK => ?_) AllReadyH.nil)
  go_simp
  (with_reducible refine C1.out.mono ?_)
  rintro e w5 ⟨rfl, rfl⟩
  clear C1
  go_wp2_with fail
  refine hK.out _ _ ⟨yX, yk⟩ (fun hHeld' => ?_)
  clear hK K hHeld
  have hHeld := hHeld'
  clear hHeld'
  try simp only [Act.put, List.setIfInBounds_toArray, List.set_cons_zero, List.set_cons_succ]
  refine wpAnyH_take (i := 19) (oi := { dst := some 131, op := Op.binOp BinOp.eql 46 (Operand.tmp 123) (Operand.tmp 130) 46, type := 4, pos := "law.go:95", after := #[{ on := 11, ground := Ground.data }, { on := 18, ground := Ground.data }], guard := none }) (v := .bool true) rfl (by kernel_rfl) (by kernel_rfl) (by kernel_rfl) (fun _ _ _ h => h) (Or.inl ⟨by rfl, ?hyV⟩) hHeld ?_
  case hyV => (intro w' hSw; (try dsimp only at hSw); go_simp; (try exact hqs _))
  try simp only [Act.put, List.setIfInBounds_toArray, List.set_cons_zero, List.set_cons_succ]
  refine wpAnyH_take (i := 20) (oi := { dst := some 4, op := Op.assign (Operand.tmp 131), type := 4, pos := "law.go:95", after := #[{ on := 19, ground := Ground.data }, { on := 11, ground := Ground.chain }, { on := 0, ground := Ground.phase }, { on := 1, ground := Ground.phase }, { on := 2, ground := Ground.phase }, { on := 3, ground := Ground.phase }, { on := 4, ground := Ground.phase }, { on := 5, ground := Ground.phase }, { on := 6, ground := Ground.phase }, { on := 7, ground := Ground.phase }, { on := 8, ground := Ground.phase }, { on := 9, ground := Ground.phase }, { on := 10, ground := Ground.phase }, { on := 11, ground := Ground.phase }, { on := 12, ground := Ground.phase }, { on := 13, ground := Ground.phase }, { on := 14, ground := Ground.phase }, { on := 15, ground := Ground.phase }, { on := 16, ground := Ground.phase }, { on := 17, ground := Ground.phase }, { on := 18, ground := Ground.phase }, { on := 19, ground := Ground.phase }], guard := none }) (v := ?v64) rfl (by kernel_rfl) (by kernel_rfl) (by kernel_rfl) (fun _ _ _ h => h) (Or.inl ⟨by rfl, ?hy64⟩) hHeld ?rest64
  case hy64 => (intro w' hSw; (try dsimp only at hSw); go_simp; (try with_reducible rfl))
  try simp only [Act.put, List.setIfInBounds_toArray, List.set_cons_zero, List.set_cons_succ]
  refine wpAnyH_done (by kernel_rfl) ?_ _
  go_wp2
  go_ret
  exact HQ.out

end Go.Proofs.YtgelmhldicmmdaaGreat
