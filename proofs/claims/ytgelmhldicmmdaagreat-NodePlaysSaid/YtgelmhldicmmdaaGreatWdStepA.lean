/-
  A step of layer 12's world: a node becomes one of another one.
  A step of layer 12's world: a node is written to.
  A step of layer 12's world: any of them.
-/
import Derived.Test.YtgelmhldicmmdaaGreatWdStep
import Derived.Test.YtgelmhldicmmdaaGreatNdFroz
import Derived.Test.YtgelmhldicmmdaaGreatWdStepC
namespace Go.Proofs.YtgelmhldicmmdaaGreat
open Go.RowKit

set_option linter.unusedSimpArgs false in
set_option maxRecDepth 100000 in
set_option maxHeartbeats 8000000 in
theorem wstep_no {fb : FB} {w0 w : World} {X : Nat} {l : List (Nat × Nd)} {ds : List (List Value)} (h : Wst fb w0 w X l ds) (hf : l.length ≤ 900)
    (d i j o v : Int) (b : UInt8) (A : Option Addr) (n c : Nat) (p : List UInt8) (hB : ∀ V, Below w0.heap.size w0 V → Byt V w0.heap.size A n p) (hn : n ≤ 140737488351232) (ho : 0 ≤ o ∧ o ≤ 255) (hd0 : 0 ≤ d) (hi0 : 0 ≤ i ∧ i ≤ 65535) (hj0 : 0 ≤ j ∧ j ≤ 65535) (n0 : ¬ d % 9 = 0) (n1 : ¬ d % 9 = 1) (hpos : 0 < l.length) (h3 : d % 9 = 3) (hmi : ∀ g x, l[(i % (l.length : Int)).toNat]? = some (g, x) → mineB x.ow (o % 4) = false) :
    Calls Tryz.prog 6 #[ptrN X, .agg #[.int .u8 d, .int .u16 i, .int .u16 j, .int .u8 o, .int .u8 (b.toNat : Int), .slice A n c, .int .u64 v]] w (StPost fb w0 X l) := by
  have HFN := Lib.hid (And.intro hf (And.intro hn (And.intro hi0 hj0)))
  obtain ⟨vl, vw, h, hD⟩ := h
  obtain ⟨Wa, hWa⟩ : ∃ Wa, w.alloc (.cells #[.int .u8 d, .int .u16 i, .int .u16 j, .int .u8 o, .int .u8 (b.toNat : Int), .slice A n c, .int .u64 v] 41) = Wa := ⟨_, rfl⟩
  have ba : Below w.heap.size w Wa := by rw [← hWa]; exact (Below.refl _ _).alloc (Nat.le_refl _) _
  have sa : Wa.heap.size = w.heap.size + 1 := by rw [← hWa]; simp
  have na : Blk Wa w.heap.size #[.int .u8 d, .int .u16 i, .int .u16 j, .int .u8 o, .int .u8 (b.toNat : Int), .slice A n c, .int .u64 v] := by rw [← hWa]; exact Blk.new w _ _
  have nsb : ¬ NX fb X vl vw w.heap.size := fun q => by have := h.lt _ q; omega
  have ha := h.on ba
  obtain ⟨q, hq⟩ : ∃ q : Int, o % 4 = q := ⟨_, rfl⟩
  have hq4 : o.tmod 4 = o % 4 := Int.tmod_eq_emod_of_nonneg ho.1
  have ewq : IntKind.u64.wrap q = q := by simp [IntKind.wrap, IntKind.bits, IntKind.signed]; omega
  have hd99 : d.tmod 9 = d % 9 := Int.tmod_eq_emod_of_nonneg hd0
  have HW := Lib.hid ha
  have HN := Lib.hid na
  have HHD := Lib.hid hD
  have HDL := Lib.hid (show ds.length = l.length from hD.1)
  have HPB := Lib.hid hB
  have NSB := Lib.hid nsb
  have HXlo := Lib.hid h.lo
  have f0 : Wa.cell? ⟨w.heap.size, 0, none⟩ = some (.int .u8 d) := na.cell 0
  have f1 : Wa.cell? ⟨w.heap.size, 1, none⟩ = some (.int .u16 i) := na.cell 1
  have f3 : Wa.cell? ⟨w.heap.size, 3, none⟩ = some (.int .u8 o) := na.cell 3
  obtain ⟨k, hki⟩ : ∃ k : Nat, i % (l.length : Int) = (k : Int) := ⟨(i % (l.length : Int)).toNat, by have := Int.emod_nonneg i (show (l.length : Int) ≠ 0 by omega); omega⟩
  have hkl0 : k < l.length := by have := Int.emod_lt_of_pos i (show (0 : Int) < (l.length : Int) by omega); omega
  have hkl : (k : Int) < (l.length : Int) := by omega
  have hit : i.tmod (l.length : Int) = (k : Int) := by rw [Int.tmod_eq_emod_of_nonneg hi0.1]; exact hki
  obtain ⟨⟨g, x⟩, hk⟩ : ∃ p, l[k]? = some p := ⟨_, List.getElem?_eq_getElem hkl0⟩
  have hmi := hmi g x (by rw [hki]; exact hk)
  rw [hq] at hmi
  obtain ⟨L, hL⟩ : ∃ L, ds[k]? = some L := ⟨_, List.getElem?_eq_getElem (by rw [hD.1]; exact hkl0)⟩
  have hd := hD.2 k _ L hk hL
  obtain ⟨t, cap, hv, c1⟩ := ha.ptr hk
  obtain ⟨t2, cap2, hv2, c2, hlen⟩ := ha.dn hL
  rw [hD.1] at hv2
  have HLn := Lib.hid hd.dn
  have cX : Wa.cell? ⟨X, 1, none⟩ = some (.slice (some ⟨t, 0, none⟩) l.length cap) := by have := ha.cL; rw [hv] at this; exact this
  have cY : Wa.cell? ⟨X, 2, none⟩ = some (.slice (some ⟨t2, 0, none⟩) l.length cap2) := by have := ha.cW; rw [hv2] at this; exact this
  have HR0 := Lib.hid c2
  obtain ⟨Ad, nd, cd, Kd, hLe, hBd, hKd⟩ := hd
  obtain ⟨L2, hL2⟩ : ∃ L2, dnL q x.leaf Ad nd cd x.has x.val Kd = L2 := ⟨_, rfl⟩
  have HL2 := Lib.hid (show Dn L2 by rw [← hL2]; exact dn_is)
  have HDoc := Lib.hid (show DocOf w0 (l.map Prod.fst) { x with ow := q } L2 from ⟨Ad, nd, cd, Kd, hL2.symm, hBd, hKd⟩)
  have ewi : IntKind.i64.wrap i = i := by rw [IntKind.wrap_i64]; omega
  have nzl : ¬ ((l.length : Int) = 0) := by omega
  obtain ⟨dd, hdd⟩ : ∃ dd, d % 9 = dd := ⟨_, rfl⟩
  rw [hdd] at hd99 n0 n1
  have g0 : (dd == 0) = false := by simpa using n0
  have g1 : (dd == 1) = false := by simpa using n1
  have HZ := Lib.hid dn_zero
  generalize hzs : zeroN.toArray = zs at HZ
  go_enter Tryz.func6, Tryz.ntmps6
  go_upto_region 6 with fail
  try rw [hWa]
  go_quiet (fail)
  obtain ⟨U, hU⟩ : ∃ U, Wa.drewN nq = U := ⟨_, rfl⟩
  have beU : Below Wa.heap.size Wa U := by rw [← hU]; exact Still.below ⟨nq, rfl⟩ _
  have sU : U.heap.size = w.heap.size + 1 := by rw [← hU]; exact sa
  have hU1 := ha.on beU
  have HRU := Lib.hid (show U.rangeAt t2 (k * 261) L by
    obtain ⟨t', cap', hv', c1', _⟩ := hU1.dn hL
    rw [hD.1, hv2] at hv'
    injection hv' with e1 e2 e3
    injection e1 with e1
    injection e1 with e1
    rw [e1]; exact c1')
  have cYU : U.cell? ⟨X, 2, none⟩ = some (.slice (some ⟨t2, 0, none⟩) l.length cap2) := by have := hU1.cW; rw [hv2] at this; exact this
  obtain ⟨U2, hU2⟩ : ∃ U2, (U.alloc (.cells zs 59)).setCells (w.heap.size + 1) 0 L.toArray.toList = U2 := ⟨_, rfl⟩
  have lz : Lst (U.alloc (.cells zs 59)) (w.heap.size + 1) zeroN := by rw [← hzs, ← sU]; exact Blk.new U _ _
  have HTh := Lib.hid (Lst.there lz (o := 0) (n := L.toArray.size) (by rw [zeroN_length, List.size_toArray, hlen]; exact Nat.le_refl _))
  have lU2 : Lst U2 (w.heap.size + 1) L := by rw [← hU2]; exact dn_over lz zeroN_length HLn.out
  have beU2 : Below Wa.heap.size Wa U2 := by
    have q1 : Below U.heap.size U (U.alloc (.cells zs 59)) := (Below.refl _ _).alloc (Nat.le_refl _) _
    rw [← hU2]
    exact (beU.trans (q1.mono beU.size)).trans ((Kept.setCells (· = w.heap.size + 1) _ _ _ _ rfl).below (B := Wa.heap.size) (Nat.le_trans beU.size q1.size) (fun i e => by omega))
  obtain ⟨W2, hW2⟩ : ∃ W2, U2.setCell ⟨w.heap.size + 1, 0, none⟩ (.int .u64 q) = W2 := ⟨_, rfl⟩
  have lW2 : Lst W2 (w.heap.size + 1) L2 := by
    have := Lst.set1 lU2 0 (.int .u64 q)
    rw [hW2, hLe] at this
    rw [← hL2]
    exact this
  have beW2 : Below Wa.heap.size Wa W2 := by rw [← hW2]; exact beU2.trans ((Kept.set_ (D := (· = w.heap.size + 1)) _ ⟨w.heap.size + 1, 0, none⟩ _ rfl).below beU2.size (fun i e => by omega))
  have v0 : U2.cell? ⟨w.heap.size + 1, 0, none⟩ = some (.int .u64 x.ow) := by rw [Lst.at_ lU2, hLe]; rfl
  have v1 : U2.frozen? ⟨w.heap.size + 1, 0, none⟩ = false := Blk.fz lU2 _
  have HST := Lib.hid (Ws.start h (ba.trans (beW2.mono ba.size)) (na.below beW2 na.lt) lW2)
  have u0 : W2.cell? ⟨w.heap.size, 0, none⟩ = some (.int .u8 d) := HST.out.ls.cell 0
  have uX : W2.cell? ⟨X, 1, none⟩ = some (.slice (some ⟨t, 0, none⟩) l.length cap) := by have := HST.out.wb.cL; rw [hv] at this; exact this
  have uY : W2.cell? ⟨X, 2, none⟩ = some (.slice (some ⟨t2, 0, none⟩) l.length cap2) := by have := HST.out.wb.cW; rw [hv2] at this; exact this
  have uk : W2.cell? ⟨t, k, none⟩ = some (ptrN g) := by
    obtain ⟨t', cap', hv', c1'⟩ := HST.out.wb.ptr hk
    rw [hv] at hv'
    injection hv' with e1 e2 e3
    injection e1 with e1
    injection e1 with e1
    rw [e1]; exact c1'
  have HR2 := Lib.hid (show W2.rangeAt t2 (k * 261) L by
    obtain ⟨t', cap', hv', c1', _⟩ := HST.out.wb.dn hL
    rw [hD.1, hv2] at hv'
    injection hv' with e1 e2 e3
    injection e1 with e1
    injection e1 with e1
    rw [e1]; exact c1')
  have HU2 := Lib.hid hU2
  have HW2 := Lib.hid hW2
  have HHk := Lib.hid hk
  have HOw := Lib.hid (show L[0]? = some (.int .u64 x.ow) by rw [hLe]; rfl)
  have SU := Lib.hid sU
  have HVL := Lib.hid hv
  rw [hU]
  clear hU1 hU hU2 hW2 hzs lz lU2 beU beU2 lW2 beW2 hB ba sa na nsb ha hD h HW HN hk hL hlen hLe hL2 hBd hKd c1 c2 hv hv2 hWa cX cY f0 f1 f3 hit ewi nzl HR0 hq hq4 ewq
  go_upto_region 9 with (first
    | (refine wpList_load_mid rfl 59 (.tmp 72) rfl t2 (k * 261) (by go_simp) L _ HRU.out Tryz.underlying59 rfl HLn.out.sz ?_)
    | (refine wpList_alloc_z rfl 59 rfl zs HZ.out ?_; rw [SU.out])
    | (refine wpList_store_mid rfl 59 (.tmp 7) (.tmp 73) rfl (w.heap.size + 1) 0 L.toArray rfl rfl HTh.out HLn.out.szA HLn.out.all1 ?_; rw [HU2.out]))
  try rw [SU.out]
  rw [HW2.out]
  clear HRU cYU HTh HU2 HW2 HZ v0 v1 SU
  obtain rfl : dd = 3 := by omega
  go_upto_region 14 with (first
    | (refine wpList_load_met (by kernel_rfl) 59 (.tmp 107) rfl t2 (k * 261) (by go_simp) L _ HR2.out Tryz.underlying59 rfl HLn.out.sz ?_)
    | ((with_reducible refine (rmine_any L x.ow q HOw.out W2).mono ?_); rintro e w4 ⟨rfl, b4⟩; rw [hmi]; have HST4 := Lib.hid (HST.out.on b4); have z0 : w4.cell? ⟨w.heap.size, 0, none⟩ = some (.int .u8 d) := HST4.out.ls.cell 0; clear b4))
  have yX : w4.cell? ⟨X, 1, none⟩ = some (.slice (some ⟨t, 0, none⟩) l.length cap) := by have := HST4.out.wb.cL; rw [HVL.out] at this; exact this
  have yk : w4.cell? ⟨t, k, none⟩ = some (ptrN g) := by
    obtain ⟨t', cap', hv', c1'⟩ := HST4.out.wb.ptr HHk.out
    rw [HVL.out] at hv'
    injection hv' with e1 e2 e3
    injection e1 with e1
    injection e1 with e1
    rw [e1]; exact c1'
  have HST1 := Lib.hid (HST4.out.on (show Below w4.heap.size w4 w4.drew from (Below.refl _ _).drew))
  have C1 := Lib.hid (HST1.out.nn.own_no HHk.out HST1.out.wb.below.size HST1.out.hN (some X) (l.length : Int) q hmi (mt_of HST1.out.wb.blk (by omega) (by omega)) (fun i e => by injection e with e; exact .inr (.inl (.inl e.symm))))
  rw [show mtr (some X) = ptrN X from rfl] at C1
  refine wp_region_held_drew (S := (fun w' => w'.rangeAt (w.heap.size + 1) 0 L2)) (by kernel_rfl) (Lst.all (show Lst w4.drew _ _ from HST4.out.lg)) (fun hHeld => ?_)
  refine wpAnyH_take (i := 0) (oi := { dst := some 137, op := Op.move (Operand.tmp 0), type := 25, pos := "law.go:97", after := #[], guard := none }) (v := ?v65) rfl (by kernel_rfl) (by kernel_rfl) (by kernel_rfl) (fun _ _ _ h => h) (Or.inl ⟨by rfl, ?hy65⟩) hHeld ?rest65
  case hy65 => (intro w' hSw; (try dsimp only at hSw); go_simp; (try with_reducible rfl))
  try simp only [Act.put, List.setIfInBounds_toArray, List.set_cons_zero, List.set_cons_succ]
  refine wpAnyH_take (i := 1) (oi := { dst := some 138, op := Op.move (Operand.tmp 0), type := 25, pos := "law.go:97", after := #[], guard := none }) (v := ?v66) rfl (by kernel_rfl) (by kernel_rfl) (by kernel_rfl) (fun _ _ _ h => h) (Or.inl ⟨by rfl, ?hy66⟩) hHeld ?rest66
  case hy66 => (intro w' hSw; (try dsimp only at hSw); go_simp; (try with_reducible rfl))
  try simp only [Act.put, List.setIfInBounds_toArray, List.set_cons_zero, List.set_cons_succ]
  refine wpAnyH_take (i := 2) (oi := { dst := some 139, op := Op.nilCheck (Operand.tmp 138), type := 0, pos := "law.go:97", after := #[{ on := 1, ground := Ground.data }], guard := none }) (v := ?v67) rfl (by kernel_rfl) (by kernel_rfl) (by kernel_rfl) (fun _ _ _ h => h) (Or.inl ⟨by rfl, ?hy67⟩) hHeld ?rest67
  case hy67 => (intro w' hSw; (try dsimp only at hSw); go_simp; (try with_reducible rfl))
  try simp only [Act.put, List.setIfInBounds_toArray, List.set_cons_zero, List.set_cons_succ]
  refine wpAnyH_take (i := 3) (oi := { dst := some 140, op := Op.fieldAddr 36 (Operand.tmp 139) 1, type := 0, pos := "law.go:97", after := #[{ on := 2, ground := Ground.data }], guard := none }) (v := ?v68) rfl (by kernel_rfl) (by kernel_rfl) (by kernel_rfl) (fun _ _ _ h => h) (Or.inl ⟨by rfl, ?hy68⟩) hHeld ?rest68
  case hy68 => (intro w' hSw; (try dsimp only at hSw); go_simp; (try with_reducible rfl))
  try simp only [Act.put, List.setIfInBounds_toArray, List.set_cons_zero, List.set_cons_succ]
  refine wpAnyH_take (i := 5) (oi := { dst := some 142, op := Op.move (Operand.tmp 6), type := 3, pos := "law.go:97", after := #[], guard := none }) (v := ?v69) rfl (by kernel_rfl) (by kernel_rfl) (by kernel_rfl) (fun _ _ _ h => h) (Or.inl ⟨by rfl, ?hy69⟩) hHeld ?rest69
  case hy69 => (intro w' hSw; (try dsimp only at hSw); go_simp; (try with_reducible rfl))
  try simp only [Act.put, List.setIfInBounds_toArray, List.set_cons_zero, List.set_cons_succ]
  refine wpAnyH_take (i := 8) (oi := { dst := some 145, op := Op.move (Operand.tmp 0), type := 25, pos := "law.go:97", after := #[], guard := none }) (v := ?v70) rfl (by kernel_rfl) (by kernel_rfl) (by kernel_rfl) (fun _ _ _ h => h) (Or.inl ⟨by rfl, ?hy70⟩) hHeld ?rest70
  case hy70 => (intro w' hSw; (try dsimp only at hSw); go_simp; (try with_reducible rfl))
  try simp only [Act.put, List.setIfInBounds_toArray, List.set_cons_zero, List.set_cons_succ]
  refine wpAnyH_take (i := 9) (oi := { dst := some 146, op := Op.nilCheck (Operand.tmp 145), type := 0, pos := "law.go:97", after := #[{ on := 8, ground := Ground.data }], guard := none }) (v := ?v71) rfl (by kernel_rfl) (by kernel_rfl) (by kernel_rfl) (fun _ _ _ h => h) (Or.inl ⟨by rfl, ?hy71⟩) hHeld ?rest71
  case hy71 => (intro w' hSw; (try dsimp only at hSw); go_simp; (try with_reducible rfl))
  try simp only [Act.put, List.setIfInBounds_toArray, List.set_cons_zero, List.set_cons_succ]
  refine wpAnyH_take (i := 10) (oi := { dst := some 147, op := Op.fieldAddr 36 (Operand.tmp 146) 0, type := 0, pos := "law.go:97", after := #[{ on := 9, ground := Ground.data }], guard := none }) (v := ?v72) rfl (by kernel_rfl) (by kernel_rfl) (by kernel_rfl) (fun _ _ _ h => h) (Or.inl ⟨by rfl, ?hy72⟩) hHeld ?rest72
  case hy72 => (intro w' hSw; (try dsimp only at hSw); go_simp; (try with_reducible rfl))
  try simp only [Act.put, List.setIfInBounds_toArray, List.set_cons_zero, List.set_cons_succ]
  refine wpAnyH_take (i := 11) (oi := { dst := some 148, op := Op.move (Operand.tmp 5), type := 39, pos := "law.go:97", after := #[], guard := none }) (v := ?v73) rfl (by kernel_rfl) (by kernel_rfl) (by kernel_rfl) (fun _ _ _ h => h) (Or.inl ⟨by rfl, ?hy73⟩) hHeld ?rest73
  case hy73 => (intro w' hSw; (try dsimp only at hSw); go_simp; (try with_reducible rfl))
  try simp only [Act.put, List.setIfInBounds_toArray, List.set_cons_zero, List.set_cons_succ]
  refine wpAnyH_take (i := 13) (oi := { dst := some 150, op := Op.load 59 (Operand.tmp 7), type := 59, pos := "law.go:97", after := #[], guard := none }) (v := .agg L2.toArray) rfl (by kernel_rfl) (by kernel_rfl) (by kernel_rfl) (fun _ _ _ h => h) (yieldsIf_load_mid (by rfl) 59 (.tmp 7) rfl (w.heap.size + 1) 0 (by rfl) L2 _ (fun _ h => h) Tryz.underlying59 rfl HL2.out.sz) hHeld ?_
  try simp only [Act.put, List.setIfInBounds_toArray, List.set_cons_zero, List.set_cons_succ]
  refine wpAnyH_ready (rs := [4]) (by kernel_rfl) (by simp) (AllReadyH.cons (o := { dst := some 141, op := Op.load 33 (Operand.tmp 140), type := 33, pos := "law.go:97", after := #[{ on := 3, ground := Ground.data }], guard := none }) rfl (fun K hK => ?_) AllReadyH.nil)
  go_simp
  refine hK.out _ _ (Lst.all (show Lst w4.drew _ _ from HST4.out.lg)) (fun hHeld' => ?_)
  clear hK K hHeld
  have hHeld := hHeld'
  clear hHeld'
  try simp only [Act.put, List.setIfInBounds_toArray, List.set_cons_zero, List.set_cons_succ]
  refine wpAnyH_take (i := 6) (oi := { dst := some 143, op := Op.indexAddr 33 (Operand.tmp 141) (Operand.tmp 142), type := 0, pos := "law.go:97", after := #[{ on := 4, ground := Ground.data }, { on := 5, ground := Ground.data }], guard := none }) (v := .pointer (some ⟨t, k, none⟩)) rfl (by kernel_rfl) (by kernel_rfl) (by kernel_rfl) (fun _ _ _ h => h) (Or.inl ⟨by rfl, ?hyV⟩) hHeld ?_
  case hyV => (intro w' hSw; (try dsimp only at hSw); go_simp; (try rw [if_pos ⟨by omega, hkl⟩]); (try simp only [Int.toNat_natCast, Nat.mul_one, Nat.zero_add]); (try rfl))
  try simp only [Act.put, List.setIfInBounds_toArray, List.set_cons_zero, List.set_cons_succ]
  refine wpAnyH_ready (rs := [7]) (by kernel_rfl) (by simp) (AllReadyH.cons (o := { dst := some 144, op := Op.load 46 (Operand.tmp 143), type := 46, pos := "law.go:97", after := #[{ on := 6, ground := Ground.data }], guard := none }) rfl (fun K hK => ?_) AllReadyH.nil)
  go_simp
  refine hK.out _ _ (Lst.all (show Lst w4.drew _ _ from HST4.out.lg)) (fun hHeld' => ?_)
  clear hK K hHeld
  have hHeld := hHeld'
  clear hHeld'
  try simp only [Act.put, List.setIfInBounds_toArray, List.set_cons_zero, List.set_cons_succ]
  refine wpAnyH_ready (rs := [12]) (by kernel_rfl) (by simp) (AllReadyH.cons (o := { dst := some 149, op := Op.call { callee := Callee.value (Operand.func 20), args := #[Operand.tmp 144, Operand.tmp 147, Operand.tmp 148], argTypes := #[46, 48, 39] }, type := 46, pos := "law.go:97", after := #[{ on := 7, ground := Ground.data }, { on := 10, ground := Ground.data }, { on := 11, ground := Ground.data }], guard := none }) rfl (fun K hK => ?_) AllReadyH.nil)
  go_simp
  (with_reducible refine C1.out.mono ?_)
  rintro e w2 ⟨g2, rfl, nn, kk, cc⟩
  have HM2 := Lib.hid (HST1.out.wb.made (nn.more (fun i q => .inl (.inl q))) kk (cc _ rfl))
  have HG2 := Lib.hid (kk.blk HST1.out.lg (fun e => by injection e with e; exact HST.out.ne.1 (.inl e.symm)))
  clear nn kk cc C1
  go_wp2_with fail
  refine hK.out _ _ (Lst.all HG2.out) (fun hHeld' => ?_)
  clear hK K hHeld
  have hHeld := hHeld'
  clear hHeld'
  try simp only [Act.put, List.setIfInBounds_toArray, List.set_cons_zero, List.set_cons_succ]
  refine wpAnyH_ready (rs := [14]) (by kernel_rfl) (by simp) (AllReadyH.cons (o := { dst := some 151, op := Op.call { callee := Callee.value (Operand.func 17), args := #[Operand.tmp 137, Operand.tmp 149, Operand.tmp 150], argTypes := #[25, 46, 59] }, type := 4, pos := "law.go:97", after := #[{ on := 0, ground := Ground.data }, { on := 12, ground := Ground.data }, { on := 13, ground := Ground.data }, { on := 12, ground := Ground.chain }], guard := none }) rfl (fun K hK => ?_) AllReadyH.nil)
  go_simp
  (with_reducible refine (wfresh_any HM2.out L2 HL2.out (by omega) (by omega) (by have := HDL.out; omega)).mono ?_)
  rintro e w3 ⟨rfl, vl', vw', hb', kf⟩
  have HB3 := Lib.hid (kf.blk HG2.out (fun q => HST.out.ne.1 q))
  have HE := Lib.hid (show StPost fb w0 X l (.returned (.bool true)) w3 from ⟨rfl, l ++ [(g2, { x with ow := q })], ds ++ [L2], ⟨vl', vw', by simpa using hb', HHD.out.more HDoc.out⟩, by simp, by simp, by simp⟩)
  clear hb' kf
  go_wp2_with fail
  refine hK.out _ _ (Lst.all HB3.out) (fun hHeld' => ?_)
  clear hK K hHeld
  have hHeld := hHeld'
  clear hHeld'
  try simp only [Act.put, List.setIfInBounds_toArray, List.set_cons_zero, List.set_cons_succ]
  refine wpAnyH_take (i := 15) (oi := { dst := some 4, op := Op.assign (Operand.tmp 151), type := 4, pos := "law.go:97", after := #[{ on := 14, ground := Ground.data }, { on := 14, ground := Ground.chain }, { on := 0, ground := Ground.phase }, { on := 1, ground := Ground.phase }, { on := 2, ground := Ground.phase }, { on := 3, ground := Ground.phase }, { on := 4, ground := Ground.phase }, { on := 5, ground := Ground.phase }, { on := 6, ground := Ground.phase }, { on := 7, ground := Ground.phase }, { on := 8, ground := Ground.phase }, { on := 9, ground := Ground.phase }, { on := 10, ground := Ground.phase }, { on := 11, ground := Ground.phase }, { on := 12, ground := Ground.phase }, { on := 13, ground := Ground.phase }, { on := 14, ground := Ground.phase }], guard := none }) (v := ?v74) rfl (by kernel_rfl) (by kernel_rfl) (by kernel_rfl) (fun _ _ _ h => h) (Or.inl ⟨by rfl, ?hy74⟩) hHeld ?rest74
  case hy74 => (intro w' hSw; (try dsimp only at hSw); go_simp; (try with_reducible rfl))
  try simp only [Act.put, List.setIfInBounds_toArray, List.set_cons_zero, List.set_cons_succ]
  refine wpAnyH_done (by kernel_rfl) ?_ _
  go_wp2
  go_ret
  exact HE.out

end Go.Proofs.YtgelmhldicmmdaaGreat

namespace Go.Proofs.YtgelmhldicmmdaaGreat
open Go.RowKit

set_option linter.unusedSimpArgs false in
set_option maxRecDepth 100000 in
set_option maxHeartbeats 8000000 in
theorem wstep_write {fb : FB} {w0 w : World} {X : Nat} {l : List (Nat × Nd)} {ds : List (List Value)} (h : Wst fb w0 w X l ds) (hf : l.length ≤ 900)
    (d i j o v : Int) (b : UInt8) (A : Option Addr) (n c : Nat) (p : List UInt8) (hB : ∀ V, Below w0.heap.size w0 V → Byt V w0.heap.size A n p) (hn : n ≤ 140737488351232) (ho : 0 ≤ o ∧ o ≤ 255) (hd0 : 0 ≤ d) (hi0 : 0 ≤ i ∧ i ≤ 65535) (hj0 : 0 ≤ j ∧ j ≤ 65535) (n0 : ¬ d % 9 = 0) (n1 : ¬ d % 9 = 1) (hpos : 0 < l.length) (n2 : ¬ d % 9 = 2) (n3 : ¬ d % 9 = 3) :
    Calls Tryz.prog 6 #[ptrN X, .agg #[.int .u8 d, .int .u16 i, .int .u16 j, .int .u8 o, .int .u8 (b.toNat : Int), .slice A n c, .int .u64 v]] w (StPost fb w0 X l) := by
  have HFN := Lib.hid (And.intro hf (And.intro hn (And.intro hi0 hj0)))
  obtain ⟨vl, vw, h, hD⟩ := h
  obtain ⟨Wa, hWa⟩ : ∃ Wa, w.alloc (.cells #[.int .u8 d, .int .u16 i, .int .u16 j, .int .u8 o, .int .u8 (b.toNat : Int), .slice A n c, .int .u64 v] 41) = Wa := ⟨_, rfl⟩
  have ba : Below w.heap.size w Wa := by rw [← hWa]; exact (Below.refl _ _).alloc (Nat.le_refl _) _
  have sa : Wa.heap.size = w.heap.size + 1 := by rw [← hWa]; simp
  have na : Blk Wa w.heap.size #[.int .u8 d, .int .u16 i, .int .u16 j, .int .u8 o, .int .u8 (b.toNat : Int), .slice A n c, .int .u64 v] := by rw [← hWa]; exact Blk.new w _ _
  have nsb : ¬ NX fb X vl vw w.heap.size := fun q => by have := h.lt _ q; omega
  have ha := h.on ba
  obtain ⟨q, hq⟩ : ∃ q : Int, o % 4 = q := ⟨_, rfl⟩
  have hq4 : o.tmod 4 = o % 4 := Int.tmod_eq_emod_of_nonneg ho.1
  have ewq : IntKind.u64.wrap q = q := by simp [IntKind.wrap, IntKind.bits, IntKind.signed]; omega
  have hd99 : d.tmod 9 = d % 9 := Int.tmod_eq_emod_of_nonneg hd0
  have HW := Lib.hid ha
  have HN := Lib.hid na
  have HHD := Lib.hid hD
  have HDL := Lib.hid (show ds.length = l.length from hD.1)
  have HPB := Lib.hid hB
  have NSB := Lib.hid nsb
  have HXlo := Lib.hid h.lo
  have f0 : Wa.cell? ⟨w.heap.size, 0, none⟩ = some (.int .u8 d) := na.cell 0
  have f1 : Wa.cell? ⟨w.heap.size, 1, none⟩ = some (.int .u16 i) := na.cell 1
  have f3 : Wa.cell? ⟨w.heap.size, 3, none⟩ = some (.int .u8 o) := na.cell 3
  obtain ⟨k, hki⟩ : ∃ k : Nat, i % (l.length : Int) = (k : Int) := ⟨(i % (l.length : Int)).toNat, by have := Int.emod_nonneg i (show (l.length : Int) ≠ 0 by omega); omega⟩
  have hkl0 : k < l.length := by have := Int.emod_lt_of_pos i (show (0 : Int) < (l.length : Int) by omega); omega
  have hkl : (k : Int) < (l.length : Int) := by omega
  have hit : i.tmod (l.length : Int) = (k : Int) := by rw [Int.tmod_eq_emod_of_nonneg hi0.1]; exact hki
  obtain ⟨⟨g, x⟩, hk⟩ : ∃ p, l[k]? = some p := ⟨_, List.getElem?_eq_getElem hkl0⟩
  obtain ⟨L, hL⟩ : ∃ L, ds[k]? = some L := ⟨_, List.getElem?_eq_getElem (by rw [hD.1]; exact hkl0)⟩
  have hd := hD.2 k _ L hk hL
  obtain ⟨t, cap, hv, c1⟩ := ha.ptr hk
  obtain ⟨t2, cap2, hv2, c2, hlen⟩ := ha.dn hL
  rw [hD.1] at hv2
  have HLn := Lib.hid hd.dn
  have cX : Wa.cell? ⟨X, 1, none⟩ = some (.slice (some ⟨t, 0, none⟩) l.length cap) := by have := ha.cL; rw [hv] at this; exact this
  have cY : Wa.cell? ⟨X, 2, none⟩ = some (.slice (some ⟨t2, 0, none⟩) l.length cap2) := by have := ha.cW; rw [hv2] at this; exact this
  have HR0 := Lib.hid c2
  obtain ⟨Ad, nd, cd, Kd, hLe, hBd, hKd⟩ := hd
  obtain ⟨L2, hL2⟩ : ∃ L2, dnL q x.leaf Ad nd cd x.has x.val Kd = L2 := ⟨_, rfl⟩
  have HL2 := Lib.hid (show Dn L2 by rw [← hL2]; exact dn_is)
  have HDoc := Lib.hid (show DocOf w0 (l.map Prod.fst) { x with ow := q } L2 from ⟨Ad, nd, cd, Kd, hL2.symm, hBd, hKd⟩)
  have ewi : IntKind.i64.wrap i = i := by rw [IntKind.wrap_i64]; omega
  have nzl : ¬ ((l.length : Int) = 0) := by omega
  obtain ⟨dd, hdd⟩ : ∃ dd, d % 9 = dd := ⟨_, rfl⟩
  rw [hdd] at hd99 n0 n1 n2 n3
  have g0 : (dd == 0) = false := by simpa using n0
  have g1 : (dd == 1) = false := by simpa using n1
  have HZ := Lib.hid dn_zero
  generalize hzs : zeroN.toArray = zs at HZ
  go_enter Tryz.func6, Tryz.ntmps6
  go_upto_region 6 with fail
  try rw [hWa]
  go_quiet (fail)
  obtain ⟨U, hU⟩ : ∃ U, Wa.drewN nq = U := ⟨_, rfl⟩
  have beU : Below Wa.heap.size Wa U := by rw [← hU]; exact Still.below ⟨nq, rfl⟩ _
  have sU : U.heap.size = w.heap.size + 1 := by rw [← hU]; exact sa
  have hU1 := ha.on beU
  have HRU := Lib.hid (show U.rangeAt t2 (k * 261) L by
    obtain ⟨t', cap', hv', c1', _⟩ := hU1.dn hL
    rw [hD.1, hv2] at hv'
    injection hv' with e1 e2 e3
    injection e1 with e1
    injection e1 with e1
    rw [e1]; exact c1')
  have cYU : U.cell? ⟨X, 2, none⟩ = some (.slice (some ⟨t2, 0, none⟩) l.length cap2) := by have := hU1.cW; rw [hv2] at this; exact this
  obtain ⟨U2, hU2⟩ : ∃ U2, (U.alloc (.cells zs 59)).setCells (w.heap.size + 1) 0 L.toArray.toList = U2 := ⟨_, rfl⟩
  have lz : Lst (U.alloc (.cells zs 59)) (w.heap.size + 1) zeroN := by rw [← hzs, ← sU]; exact Blk.new U _ _
  have HTh := Lib.hid (Lst.there lz (o := 0) (n := L.toArray.size) (by rw [zeroN_length, List.size_toArray, hlen]; exact Nat.le_refl _))
  have lU2 : Lst U2 (w.heap.size + 1) L := by rw [← hU2]; exact dn_over lz zeroN_length HLn.out
  have beU2 : Below Wa.heap.size Wa U2 := by
    have q1 : Below U.heap.size U (U.alloc (.cells zs 59)) := (Below.refl _ _).alloc (Nat.le_refl _) _
    rw [← hU2]
    exact (beU.trans (q1.mono beU.size)).trans ((Kept.setCells (· = w.heap.size + 1) _ _ _ _ rfl).below (B := Wa.heap.size) (Nat.le_trans beU.size q1.size) (fun i e => by omega))
  obtain ⟨W2, hW2⟩ : ∃ W2, U2.setCell ⟨w.heap.size + 1, 0, none⟩ (.int .u64 q) = W2 := ⟨_, rfl⟩
  have lW2 : Lst W2 (w.heap.size + 1) L2 := by
    have := Lst.set1 lU2 0 (.int .u64 q)
    rw [hW2, hLe] at this
    rw [← hL2]
    exact this
  have beW2 : Below Wa.heap.size Wa W2 := by rw [← hW2]; exact beU2.trans ((Kept.set_ (D := (· = w.heap.size + 1)) _ ⟨w.heap.size + 1, 0, none⟩ _ rfl).below beU2.size (fun i e => by omega))
  have v0 : U2.cell? ⟨w.heap.size + 1, 0, none⟩ = some (.int .u64 x.ow) := by rw [Lst.at_ lU2, hLe]; rfl
  have v1 : U2.frozen? ⟨w.heap.size + 1, 0, none⟩ = false := Blk.fz lU2 _
  have HST := Lib.hid (Ws.start h (ba.trans (beW2.mono ba.size)) (na.below beW2 na.lt) lW2)
  have u0 : W2.cell? ⟨w.heap.size, 0, none⟩ = some (.int .u8 d) := HST.out.ls.cell 0
  have uX : W2.cell? ⟨X, 1, none⟩ = some (.slice (some ⟨t, 0, none⟩) l.length cap) := by have := HST.out.wb.cL; rw [hv] at this; exact this
  have uY : W2.cell? ⟨X, 2, none⟩ = some (.slice (some ⟨t2, 0, none⟩) l.length cap2) := by have := HST.out.wb.cW; rw [hv2] at this; exact this
  have uk : W2.cell? ⟨t, k, none⟩ = some (ptrN g) := by
    obtain ⟨t', cap', hv', c1'⟩ := HST.out.wb.ptr hk
    rw [hv] at hv'
    injection hv' with e1 e2 e3
    injection e1 with e1
    injection e1 with e1
    rw [e1]; exact c1'
  have HR2 := Lib.hid (show W2.rangeAt t2 (k * 261) L by
    obtain ⟨t', cap', hv', c1', _⟩ := HST.out.wb.dn hL
    rw [hD.1, hv2] at hv'
    injection hv' with e1 e2 e3
    injection e1 with e1
    injection e1 with e1
    rw [e1]; exact c1')
  have HU2 := Lib.hid hU2
  have HW2 := Lib.hid hW2
  have HHk := Lib.hid hk
  have HOw := Lib.hid (show L[0]? = some (.int .u64 x.ow) by rw [hLe]; rfl)
  have SU := Lib.hid sU
  have HVL := Lib.hid hv
  rw [hU]
  clear hU1 hU hU2 hW2 hzs lz lU2 beU beU2 lW2 beW2 hB ba sa na nsb ha hD h HW HN hk hL hlen hLe hL2 hBd hKd c1 c2 hv hv2 hWa cX cY f0 f1 f3 hit ewi nzl HR0 hq hq4 ewq
  go_upto_region 9 with (first
    | (refine wpList_load_mid rfl 59 (.tmp 72) rfl t2 (k * 261) (by go_simp) L _ HRU.out Tryz.underlying59 rfl HLn.out.sz ?_)
    | (refine wpList_alloc_z rfl 59 rfl zs HZ.out ?_; rw [SU.out])
    | (refine wpList_store_mid rfl 59 (.tmp 7) (.tmp 73) rfl (w.heap.size + 1) 0 L.toArray rfl rfl HTh.out HLn.out.szA HLn.out.all1 ?_; rw [HU2.out]))
  try rw [SU.out]
  rw [HW2.out]
  clear HRU cYU HTh HU2 HW2 HZ v0 v1 SU
  have g2 : (dd == 2) = false := by simpa using n2
  have g3 : (dd == 3) = false := by simpa using n3
  have C1 := Lib.hid (wwrite_any HST.out.wb HHD.out HHk.out (by omega) d i j o v b A n c p HPB.out HFN.out.2.1 ho hd0 hj0)
  go_upto_region 15 with fail
  go_wp2_with (first
    | (refine wpList_load_mid rfl 41 (.tmp 3) rfl w.heap.size 0 (by rfl) [.int .u8 d, .int .u16 i, .int .u16 j, .int .u8 o, .int .u8 (b.toNat : Int), .slice A n c, .int .u64 v] _ (Lst.all HST.out.ls) Tryz.underlying41 rfl (by kernel_rfl) ?_)
    | ((with_reducible refine C1.out.mono ?_); rintro e w5 ⟨rfl, l', ds', hw', hd', hl'⟩; have HE := Lib.hid (show StPost fb w0 X l (.returned (.bool true)) w5 from ⟨rfl, l', ds', ⟨_, _, (by rw [hl']; exact hw'), hd'⟩, by omega, by omega, by omega⟩); clear hw' hd' hl'))
  go_ret
  exact HE.out

end Go.Proofs.YtgelmhldicmmdaaGreat

namespace Go.Proofs.YtgelmhldicmmdaaGreat
open Go.RowKit

set_option maxRecDepth 100000 in
theorem wstep_any {fb : FB} {w0 w : World} {X : Nat} {l : List (Nat × Nd)} {ds : List (List Value)} (h : Wst fb w0 w X l ds) (hf : l.length ≤ 900)
    (d i j o v : Int) (b : UInt8) (A : Option Addr) (n c : Nat) (p : List UInt8) (hB : ∀ V, Below w0.heap.size w0 V → Byt V w0.heap.size A n p) (hn : n ≤ 140737488351232) (ho : 0 ≤ o ∧ o ≤ 255) (hd0 : 0 ≤ d) (hi0 : 0 ≤ i ∧ i ≤ 65535) (hj0 : 0 ≤ j ∧ j ≤ 65535) :
    Calls Tryz.prog 6 #[ptrN X, .agg #[.int .u8 d, .int .u16 i, .int .u16 j, .int .u8 o, .int .u8 (b.toNat : Int), .slice A n c, .int .u64 v]] w (StPost fb w0 X l) := by
  by_cases n0 : d % 9 = 0
  · exact wstep_leaf h hf d i j o v b A n c p hB hn ho hd0 hi0 hj0 n0
  by_cases n1 : d % 9 = 1
  · exact wstep_inner h hf d i j o v b A n c p hB hn ho hd0 hi0 hj0 n1
  by_cases hl0 : l.length = 0
  · exact wstep_first h hf d i j o v b A n c p hB hn ho hd0 hi0 hj0 n0 n1 hl0
  have hpos : 0 < l.length := by omega
  by_cases n2 : d % 9 = 2
  · exact wstep_copy h hf d i j o v b A n c p hB hn ho hd0 hi0 hj0 n0 n1 hpos n2
  by_cases n3 : d % 9 = 3
  · obtain ⟨k, hk⟩ : ∃ k : Nat, k = (i % (l.length : Int)).toNat := ⟨_, rfl⟩
    have hkl : k < l.length := by have := Int.emod_lt_of_pos i (show (0 : Int) < (l.length : Int) by omega); have := Int.emod_nonneg i (show (l.length : Int) ≠ 0 by omega); omega
    obtain ⟨p0, hp0⟩ : ∃ p, l[k]? = some p := ⟨_, List.getElem?_eq_getElem hkl⟩
    rcases hm : mineB p0.2.ow (o % 4) with _ | _
    · exact wstep_no h hf d i j o v b A n c p hB hn ho hd0 hi0 hj0 n0 n1 hpos n3 (fun g x e => by rw [← hk, hp0] at e; injection e with e; subst e; exact hm)
    · exact wstep_yes h hf d i j o v b A n c p hB hn ho hd0 hi0 hj0 n0 n1 hpos n3 (fun g x e => by rw [← hk, hp0] at e; injection e with e; subst e; exact hm)
  · exact wstep_write h hf d i j o v b A n c p hB hn ho hd0 hi0 hj0 n0 n1 hpos n2 n3
end Go.Proofs.YtgelmhldicmmdaaGreat
