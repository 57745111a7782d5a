/-
  A step that writes to a node of layer 12's world.
-/
import Derived.Test.YtgelmhldicmmdaaGreatWdOps
namespace Go.Proofs.YtgelmhldicmmdaaGreat
open Go.RowKit

set_option linter.unusedSimpArgs false in
set_option maxRecDepth 100000 in
set_option maxHeartbeats 8000000 in
theorem wwrite_part {fb : FB} {w0 w : World} {X : Nat} {cnt md : Int} {l : List (Nat × Nd)} {ds : List (List Value)} {vl vw : Value} (h : Wb fb w0 w X cnt md l l ds vl vw) (hD : Docs w0 l ds) {k g : Nat} {x : Nd} (hk : l[k]? = some (g, x)) (hf : l.length ≤ 1000)
    (d i j o v : Int) (b : UInt8) (A : Option Addr) (n c : Nat) (p : List UInt8) (hB : ∀ V, Below w0.heap.size w0 V → Byt V w0.heap.size A n p) (hn : n ≤ 140737488351232) (ho : 0 ≤ o ∧ o ≤ 255) (hd0 : 0 ≤ d) (hd9 : d % 9 = 4) :
    Calls Tryz.prog 21 #[ptrN X, .agg #[.int .u8 d, .int .u16 i, .int .u16 j, .int .u8 o, .int .u8 (b.toNat : Int), .slice A n c, .int .u64 v], .int .i64 (k : Int)] w fun e w' =>
      e = .returned (.bool true) ∧ ∃ l' ds', Wb fb w0 w' X cnt md l' l' ds' vl vw ∧ Docs w0 l' ds' ∧ l'.length = l.length := by
  have HFN := Lib.hid (And.intro hf hn)
  obtain ⟨Wa, hWa⟩ : ∃ Wa, w.alloc (.cells #[.int .u8 d, .int .u16 i, .int .u16 j, .int .u8 o, .int .u8 (b.toNat : Int), .slice A n c, .int .u64 v] 41) = Wa := ⟨_, rfl⟩
  have ba : Below w.heap.size w Wa := by rw [← hWa]; exact (Below.refl _ _).alloc (Nat.le_refl _) _
  have sa : Wa.heap.size = w.heap.size + 1 := by rw [← hWa]; simp
  have na : Blk Wa w.heap.size #[.int .u8 d, .int .u16 i, .int .u16 j, .int .u8 o, .int .u8 (b.toNat : Int), .slice A n c, .int .u64 v] := by rw [← hWa]; exact Blk.new w _ _
  have ha := h.on ba
  have hkl0 := (List.getElem?_eq_some_iff.1 hk).1
  obtain ⟨L, hL⟩ : ∃ L, ds[k]? = some L := ⟨_, List.getElem?_eq_getElem (by rw [hD.1]; exact hkl0)⟩
  have hd := hD.2 k _ L hk hL
  obtain ⟨t, cap, hv, c1⟩ := ha.ptr hk
  obtain ⟨t2, cap2, hv2, c2, hlen⟩ := ha.dn hL
  rw [hD.1] at hv2
  have hkl : (k : Int) < (l.length : Int) := by omega
  have HLn := Lib.hid hd.dn
  have HS1 := Lib.hid (fun (V : World) (q : Below Wa.heap.size Wa V) => show V.cell? ⟨X, 1, none⟩ = some (.slice (some ⟨t, 0, none⟩) l.length cap) ∧ V.cell? ⟨t, k, none⟩ = some (ptrN g) ∧ V.cell? ⟨X, 2, none⟩ = some (.slice (some ⟨t2, 0, none⟩) l.length cap2) ∧ V.rangeAt t2 (k * 261) L ∧ V.cell? ⟨w.heap.size, 3, none⟩ = some (.int .u8 o) from by
    have hV := ha.on q
    obtain ⟨t', cap', hv', c1'⟩ := hV.ptr hk
    obtain ⟨t2', cap2', hv2', c2', _⟩ := hV.dn hL
    rw [hv] at hv'
    rw [hD.1] at hv2'
    rw [hv2] at hv2'
    injection hv' with e1 e2 e3
    injection e1 with e1
    injection hv2' with f1 f2 f3
    injection f1 with f1
    injection e1 with e1
    injection f1 with f1
    subst e1 f1
    have d1 := hV.cL
    have d2 := hV.cW
    rw [hv] at d1
    rw [hv2] at d2
    exact ⟨d1, c1', d2, c2', (na.below q na.lt).cell 3⟩)
  obtain ⟨q, hq⟩ : ∃ q : Int, o % 4 = q := ⟨_, rfl⟩
  have hq4 : o.tmod 4 = o % 4 := Int.tmod_eq_emod_of_nonneg ho.1
  have hd99 : d.tmod 9 = d % 9 := Int.tmod_eq_emod_of_nonneg hd0
  have ewq : IntKind.u64.wrap q = q := by simp [IntKind.wrap, IntKind.bits, IntKind.signed]; omega
  have HZ := Lib.hid dn_zero
  generalize hzs : zeroN.toArray = zs at HZ
  have HTh := Lib.hid (show (Wa.drew.alloc (.cells zs 59)).there (w.heap.size + 1) 0 L.toArray.size from by
    rw [← hzs, ← sa]; exact Lst.there (l := zeroN) (Blk.new Wa.drew _ _) (by rw [zeroN_length, List.size_toArray, hlen]; exact Nat.le_refl _))
  obtain ⟨W1, hW1⟩ : ∃ W1, (Wa.drew.alloc (.cells zs 59)).setCells (w.heap.size + 1) 0 L.toArray.toList = W1 := ⟨_, rfl⟩
  have lW : Lst W1 (w.heap.size + 1) L := by rw [← hW1, ← hzs, ← sa]; exact dn_over (Blk.new Wa.drew _ _) zeroN_length HLn.out
  have bW : Below Wa.heap.size Wa W1 := by
    rw [← hW1]
    have q1 : Below Wa.heap.size Wa (Wa.drew.alloc (.cells zs 59)) := (Below.refl _ _).drew.alloc (Nat.le_refl _) _
    exact q1.trans ((Kept.setCells (· = w.heap.size + 1) _ _ _ _ rfl).below (B := Wa.heap.size) q1.size (fun i e => by omega))
  have HB1 := Lib.hid (show Below Wa.heap.size Wa ((Wa.drew.alloc (.cells zs 59)).setCells (w.heap.size + 1) 0 L.toArray.toList) from by rw [hW1]; exact bW)
  have SA := Lib.hid sa
  have HST := Lib.hid (Ws.start h (ba.trans (bW.mono ba.size)) (na.below bW na.lt) lW)
  have HWd := Lib.hid hW1
  have HHD := Lib.hid hD
  have HHd := Lib.hid hd
  have HV2 := Lib.hid hv2
  have HUp := Lib.hid (h.nd.up_ hk)
  have HHk := Lib.hid hk
  have HPB := Lib.hid hB
  have e0 : W1.cell? ⟨w.heap.size, 0, none⟩ = some (.int .u8 d) := HST.out.ls.cell 0
  have e2 : W1.cell? ⟨w.heap.size, 2, none⟩ = some (.int .u16 j) := HST.out.ls.cell 2
  have e4 : W1.cell? ⟨w.heap.size, 4, none⟩ = some (.int .u8 (b.toNat : Int)) := HST.out.ls.cell 4
  have e5 : W1.cell? ⟨w.heap.size, 5, none⟩ = some (.slice A n c) := HST.out.ls.cell 5
  have e6 : W1.cell? ⟨w.heap.size, 6, none⟩ = some (.int .u64 v) := HST.out.ls.cell 6
  clear hW1 hzs c1 c2 hlen hL hD hd ba ha na bW lW hv2 h hk hB hkl0
  have HV1 := Lib.hid hv
  clear hv
  go_enter Tryz.func21, Tryz.ntmps21
  go_wp2_with fail
  try rw [hWa]
  clear hWa
  refine wp_region_held_drew (S := (fun w' => w'.cell? ⟨X, 1, none⟩ = some (.slice (some ⟨t, 0, none⟩) l.length cap) ∧ w'.cell? ⟨t, k, none⟩ = some (ptrN g) ∧ w'.cell? ⟨X, 2, none⟩ = some (.slice (some ⟨t2, 0, none⟩) l.length cap2) ∧ w'.rangeAt t2 (k * 261) L ∧ w'.cell? ⟨w.heap.size, 3, none⟩ = some (.int .u8 o))) (by kernel_rfl) (HS1.out _ (Below.refl _ _).drew) (fun hHeld => ?_)
  refine wpAnyH_take (i := 0) (oi := { dst := some 14, op := Op.move (Operand.tmp 0), type := 25, pos := "law.go:51", after := #[], guard := none }) (v := ?v1) rfl (by kernel_rfl) (by kernel_rfl) (by kernel_rfl) (fun _ _ _ h => h) (Or.inl ⟨by rfl, ?hy1⟩) hHeld ?rest1
  case hy1 => (intro w' hSw; (try dsimp only at hSw); go_simp; (try with_reducible rfl))
  try simp only [Act.put, List.setIfInBounds_toArray, List.set_cons_zero, List.set_cons_succ]
  refine wpAnyH_take (i := 1) (oi := { dst := some 15, op := Op.nilCheck (Operand.tmp 14), type := 0, pos := "law.go:51", after := #[{ on := 0, ground := Ground.data }], guard := none }) (v := ?v2) rfl (by kernel_rfl) (by kernel_rfl) (by kernel_rfl) (fun _ _ _ h => h) (Or.inl ⟨by rfl, ?hy2⟩) hHeld ?rest2
  case hy2 => (intro w' hSw; (try dsimp only at hSw); go_simp; (try with_reducible rfl))
  try simp only [Act.put, List.setIfInBounds_toArray, List.set_cons_zero, List.set_cons_succ]
  refine wpAnyH_take (i := 2) (oi := { dst := some 16, op := Op.fieldAddr 36 (Operand.tmp 15) 1, type := 0, pos := "law.go:51", after := #[{ on := 1, ground := Ground.data }], guard := none }) (v := ?v3) rfl (by kernel_rfl) (by kernel_rfl) (by kernel_rfl) (fun _ _ _ h => h) (Or.inl ⟨by rfl, ?hy3⟩) hHeld ?rest3
  case hy3 => (intro w' hSw; (try dsimp only at hSw); go_simp; (try with_reducible rfl))
  try simp only [Act.put, List.setIfInBounds_toArray, List.set_cons_zero, List.set_cons_succ]
  refine wpAnyH_take (i := 3) (oi := { dst := some 17, op := Op.load 33 (Operand.tmp 16), type := 33, pos := "law.go:51", after := #[{ on := 2, ground := Ground.data }], guard := none }) (v := ?v4) rfl (by kernel_rfl) (by kernel_rfl) (by kernel_rfl) (fun _ _ _ h => h) (Or.inl ⟨by rfl, ?hy4⟩) hHeld ?rest4
  case hy4 => (intro w' hSw; (try dsimp only at hSw); go_simp; (try with_reducible rfl))
  try simp only [Act.put, List.setIfInBounds_toArray, List.set_cons_zero, List.set_cons_succ]
  refine wpAnyH_take (i := 4) (oi := { dst := some 18, op := Op.move (Operand.tmp 2), type := 3, pos := "law.go:51", after := #[], guard := none }) (v := ?v5) rfl (by kernel_rfl) (by kernel_rfl) (by kernel_rfl) (fun _ _ _ h => h) (Or.inl ⟨by rfl, ?hy5⟩) hHeld ?rest5
  case hy5 => (intro w' hSw; (try dsimp only at hSw); go_simp; (try with_reducible rfl))
  try simp only [Act.put, List.setIfInBounds_toArray, List.set_cons_zero, List.set_cons_succ]
  refine wpAnyH_take (i := 5) (oi := { dst := some 19, op := Op.indexAddr 33 (Operand.tmp 17) (Operand.tmp 18), type := 0, pos := "law.go:51", after := #[{ on := 3, ground := Ground.data }, { on := 4, ground := Ground.data }], guard := none }) (v := .pointer (some ⟨t, k, none⟩)) rfl (by kernel_rfl) (by kernel_rfl) (by kernel_rfl) (fun _ _ _ h => h) (Or.inl ⟨by rfl, ?hyV⟩) hHeld ?_
  case hyV => (intro w' hSw; (try dsimp only at hSw); go_simp; (try rw [if_pos ⟨by omega, hkl⟩]); (try simp only [Int.toNat_natCast, Nat.mul_one, Nat.zero_add]); (try rfl))
  try simp only [Act.put, List.setIfInBounds_toArray, List.set_cons_zero, List.set_cons_succ]
  refine wpAnyH_take (i := 6) (oi := { dst := some 20, op := Op.load 46 (Operand.tmp 19), type := 46, pos := "law.go:51", after := #[{ on := 5, ground := Ground.data }], guard := none }) (v := ?v6) rfl (by kernel_rfl) (by kernel_rfl) (by kernel_rfl) (fun _ _ _ h => h) (Or.inl ⟨by rfl, ?hy6⟩) hHeld ?rest6
  case hy6 => (intro w' hSw; (try dsimp only at hSw); go_simp; (try with_reducible rfl))
  try simp only [Act.put, List.setIfInBounds_toArray, List.set_cons_zero, List.set_cons_succ]
  refine wpAnyH_take (i := 7) (oi := { dst := some 21, op := Op.move (Operand.tmp 0), type := 25, pos := "law.go:51", after := #[{ on := 19, ground := Ground.gcOnly Departure.lateStores }], guard := none }) (v := ?v7) rfl (by kernel_rfl) (by kernel_rfl) (by kernel_rfl) (fun _ _ _ h => h) (Or.inl ⟨by rfl, ?hy7⟩) hHeld ?rest7
  case hy7 => (intro w' hSw; (try dsimp only at hSw); go_simp; (try with_reducible rfl))
  try simp only [Act.put, List.setIfInBounds_toArray, List.set_cons_zero, List.set_cons_succ]
  refine wpAnyH_take (i := 8) (oi := { dst := some 22, op := Op.nilCheck (Operand.tmp 21), type := 0, pos := "law.go:51", after := #[{ on := 7, ground := Ground.data }, { on := 19, ground := Ground.gcOnly Departure.lateStores }], guard := none }) (v := ?v8) rfl (by kernel_rfl) (by kernel_rfl) (by kernel_rfl) (fun _ _ _ h => h) (Or.inl ⟨by rfl, ?hy8⟩) hHeld ?rest8
  case hy8 => (intro w' hSw; (try dsimp only at hSw); go_simp; (try with_reducible rfl))
  try simp only [Act.put, List.setIfInBounds_toArray, List.set_cons_zero, List.set_cons_succ]
  refine wpAnyH_take (i := 9) (oi := { dst := some 23, op := Op.fieldAddr 36 (Operand.tmp 22) 2, type := 0, pos := "law.go:51", after := #[{ on := 8, ground := Ground.data }, { on := 19, ground := Ground.gcOnly Departure.lateStores }], guard := none }) (v := ?v9) rfl (by kernel_rfl) (by kernel_rfl) (by kernel_rfl) (fun _ _ _ h => h) (Or.inl ⟨by rfl, ?hy9⟩) hHeld ?rest9
  case hy9 => (intro w' hSw; (try dsimp only at hSw); go_simp; (try with_reducible rfl))
  try simp only [Act.put, List.setIfInBounds_toArray, List.set_cons_zero, List.set_cons_succ]
  refine wpAnyH_take (i := 10) (oi := { dst := some 24, op := Op.load 34 (Operand.tmp 23), type := 34, pos := "law.go:51", after := #[{ on := 9, ground := Ground.data }, { on := 19, ground := Ground.gcOnly Departure.lateStores }], guard := none }) (v := ?v10) rfl (by kernel_rfl) (by kernel_rfl) (by kernel_rfl) (fun _ _ _ h => h) (Or.inl ⟨by rfl, ?hy10⟩) hHeld ?rest10
  case hy10 => (intro w' hSw; (try dsimp only at hSw); go_simp; (try with_reducible rfl))
  try simp only [Act.put, List.setIfInBounds_toArray, List.set_cons_zero, List.set_cons_succ]
  refine wpAnyH_take (i := 11) (oi := { dst := some 25, op := Op.move (Operand.tmp 2), type := 3, pos := "law.go:51", after := #[{ on := 19, ground := Ground.gcOnly Departure.lateStores }], guard := none }) (v := ?v11) rfl (by kernel_rfl) (by kernel_rfl) (by kernel_rfl) (fun _ _ _ h => h) (Or.inl ⟨by rfl, ?hy11⟩) hHeld ?rest11
  case hy11 => (intro w' hSw; (try dsimp only at hSw); go_simp; (try with_reducible rfl))
  try simp only [Act.put, List.setIfInBounds_toArray, List.set_cons_zero, List.set_cons_succ]
  refine wpAnyH_take (i := 12) (oi := { dst := some 26, op := Op.indexAddr 34 (Operand.tmp 24) (Operand.tmp 25), type := 0, pos := "law.go:51", after := #[{ on := 10, ground := Ground.data }, { on := 11, ground := Ground.data }, { on := 19, ground := Ground.gcOnly Departure.lateStores }], guard := none }) (v := .pointer (some ⟨t2, k * 261, none⟩)) rfl (by kernel_rfl) (by kernel_rfl) (by kernel_rfl) (fun _ _ _ h => h) (Or.inl ⟨by rfl, ?hyV⟩) hHeld ?_
  case hyV => (intro w' hSw; (try dsimp only at hSw); go_simp; (try rw [if_pos ⟨by omega, hkl⟩]); (try simp only [Int.toNat_natCast, Nat.zero_add]); (try rfl))
  try simp only [Act.put, List.setIfInBounds_toArray, List.set_cons_zero, List.set_cons_succ]
  refine wpAnyH_take (i := 13) (oi := { dst := some 27, op := Op.load 59 (Operand.tmp 26), type := 59, pos := "law.go:51", after := #[{ on := 12, ground := Ground.data }, { on := 19, ground := Ground.gcOnly Departure.lateStores }], guard := none }) (v := .agg L.toArray) rfl (by kernel_rfl) (by kernel_rfl) (by kernel_rfl) (fun _ _ _ h => h) (yieldsIf_load_mid (by rfl) 59 (.tmp 26) rfl t2 (k * 261) (by rfl) L _ (fun _ h => h.2.2.2.1) Tryz.underlying59 rfl HLn.out.sz) hHeld ?_
  try simp only [Act.put, List.setIfInBounds_toArray, List.set_cons_zero, List.set_cons_succ]
  refine wpAnyH_take (i := 14) (oi := { dst := some 28, op := Op.fieldAddr 41 (Operand.tmp 4) 3, type := 0, pos := "law.go:51", after := #[{ on := 20, ground := Ground.gcOnly Departure.lateStores }], guard := none }) (v := ?v12) rfl (by kernel_rfl) (by kernel_rfl) (by kernel_rfl) (fun _ _ _ h => h) (Or.inl ⟨by rfl, ?hy12⟩) hHeld ?rest12
  case hy12 => (intro w' hSw; (try dsimp only at hSw); go_simp; (try with_reducible rfl))
  try simp only [Act.put, List.setIfInBounds_toArray, List.set_cons_zero, List.set_cons_succ]
  refine wpAnyH_take (i := 15) (oi := { dst := some 29, op := Op.load 5 (Operand.tmp 28), type := 5, pos := "law.go:51", after := #[{ on := 14, ground := Ground.data }, { on := 20, ground := Ground.gcOnly Departure.lateStores }], guard := none }) (v := ?v13) rfl (by kernel_rfl) (by kernel_rfl) (by kernel_rfl) (fun _ _ _ h => h) (Or.inl ⟨by rfl, ?hy13⟩) hHeld ?rest13
  case hy13 => (intro w' hSw; (try dsimp only at hSw); go_simp; (try with_reducible rfl))
  try simp only [Act.put, List.setIfInBounds_toArray, List.set_cons_zero, List.set_cons_succ]
  refine wpAnyH_take (i := 16) (oi := { dst := some 30, op := Op.binOp BinOp.rem 5 (Operand.tmp 29) (Operand.const (Value.int IntKind.u8 4)) 5, type := 5, pos := "law.go:51", after := #[{ on := 15, ground := Ground.data }, { on := 20, ground := Ground.gcOnly Departure.lateStores }], guard := none }) (v := .int .u8 q) rfl (by kernel_rfl) (by kernel_rfl) (by kernel_rfl) (fun _ _ _ h => h) (Or.inl ⟨by rfl, ?hyV⟩) hHeld ?_
  case hyV => (intro w' hSw; (try dsimp only at hSw); go_simp; (try rw [hq4]); (try rw [hq]); (try rfl))
  try simp only [Act.put, List.setIfInBounds_toArray, List.set_cons_zero, List.set_cons_succ]
  refine wpAnyH_take (i := 17) (oi := { dst := some 31, op := Op.convert 5 39 (Operand.tmp 30), type := 39, pos := "law.go:51", after := #[{ on := 16, ground := Ground.data }, { on := 20, ground := Ground.gcOnly Departure.lateStores }], guard := none }) (v := .int .u64 q) rfl (by kernel_rfl) (by kernel_rfl) (by kernel_rfl) (fun _ _ _ h => h) (Or.inl ⟨by rfl, ?hyV⟩) hHeld ?_
  case hyV => (intro w' hSw; (try dsimp only at hSw); go_simp; (try rw [ewq]); (try rfl))
  try simp only [Act.put, List.setIfInBounds_toArray, List.set_cons_zero, List.set_cons_succ]
  refine wpAnyH_ready (rs := [18]) (by kernel_rfl) (by simp) (AllReadyH.cons (o := { dst := some 8, op := Op.alloc 59, type := 0, pos := "law.go:51", after := #[], guard := none }) rfl (fun K hK => ?_) AllReadyH.nil)
  rw [if_pos (by rfl)]
  refine wp_alloc_z 59 rfl zs HZ.out ?_
  refine hK.out _ _ (HS1.out _ ((Below.refl _ _).drew.alloc (Nat.le_refl _) _)) (fun hHeld' => ?_)
  clear hK K hHeld
  have hHeld := hHeld'
  clear hHeld'
  try simp only [Act.put, List.setIfInBounds_toArray, List.set_cons_zero, List.set_cons_succ]
  refine wpAnyH_take (i := 19) (oi := { dst := some 7, op := Op.assign (Operand.tmp 20), type := 46, pos := "law.go:51", after := #[{ on := 6, ground := Ground.data }, { on := 0, ground := Ground.phase }, { on := 1, ground := Ground.phase }, { on := 2, ground := Ground.phase }, { on := 3, ground := Ground.phase }, { on := 4, ground := Ground.phase }, { on := 5, ground := Ground.phase }, { on := 6, ground := Ground.phase }, { on := 7, ground := Ground.textOnly Departure.lateStores }, { on := 8, ground := Ground.textOnly Departure.lateStores }, { on := 9, ground := Ground.textOnly Departure.lateStores }, { on := 10, ground := Ground.textOnly Departure.lateStores }, { on := 11, ground := Ground.textOnly Departure.lateStores }, { on := 12, ground := Ground.textOnly Departure.lateStores }, { on := 13, ground := Ground.textOnly Departure.lateStores }, { on := 14, ground := Ground.textOnly Departure.lateStores }, { on := 15, ground := Ground.textOnly Departure.lateStores }, { on := 16, ground := Ground.textOnly Departure.lateStores }, { on := 17, ground := Ground.textOnly Departure.lateStores }, { on := 18, ground := Ground.phase }], guard := none }) (v := ?v14) rfl (by kernel_rfl) (by kernel_rfl) (by kernel_rfl) (fun _ _ _ h => h) (Or.inl ⟨by rfl, ?hy14⟩) hHeld ?rest14
  case hy14 => (intro w' hSw; (try dsimp only at hSw); go_simp; (try with_reducible rfl))
  try simp only [Act.put, List.setIfInBounds_toArray, List.set_cons_zero, List.set_cons_succ]
  refine wpAnyH_ready (rs := [20]) (by kernel_rfl) (by simp) (AllReadyH.cons (o := { dst := none, op := Op.store 59 (Operand.tmp 8) (Operand.tmp 27), type := 0, pos := "law.go:51", after := #[{ on := 18, ground := Ground.data }, { on := 13, ground := Ground.data }, { on := 19, ground := Ground.chain }, { on := 0, ground := Ground.phase }, { on := 1, ground := Ground.phase }, { on := 2, ground := Ground.phase }, { on := 3, ground := Ground.phase }, { on := 4, ground := Ground.phase }, { on := 5, ground := Ground.phase }, { on := 6, ground := Ground.phase }, { on := 7, ground := Ground.phase }, { on := 8, ground := Ground.phase }, { on := 9, ground := Ground.phase }, { on := 10, ground := Ground.phase }, { on := 11, ground := Ground.phase }, { on := 12, ground := Ground.phase }, { on := 13, ground := Ground.phase }, { on := 14, ground := Ground.textOnly Departure.lateStores }, { on := 15, ground := Ground.textOnly Departure.lateStores }, { on := 16, ground := Ground.textOnly Departure.lateStores }, { on := 17, ground := Ground.textOnly Departure.lateStores }, { on := 18, ground := Ground.phase }, { on := 19, ground := Ground.phase }], guard := none }) rfl (fun K hK => ?_) AllReadyH.nil)
  rw [if_pos (by rfl)]
  refine wp_store_mid 59 (.tmp 8) (.tmp 27) rfl (w.heap.size + 1) 0 L.toArray (by rw [← SA.out]; rfl) (by rfl) HTh.out HLn.out.szA HLn.out.all1 ?_
  refine hK.out _ _ (HS1.out _ HB1.out) (fun hHeld' => ?_)
  clear hK K hHeld
  have hHeld := hHeld'
  clear hHeld'
  try simp only [Act.put, List.setIfInBounds_toArray, List.set_cons_zero, List.set_cons_succ]
  refine wpAnyH_take (i := 21) (oi := { dst := some 9, op := Op.assign (Operand.tmp 31), type := 39, pos := "law.go:51", after := #[{ on := 17, ground := Ground.data }, { on := 20, ground := Ground.chain }, { on := 0, ground := Ground.phase }, { on := 1, ground := Ground.phase }, { on := 2, ground := Ground.phase }, { on := 3, ground := Ground.phase }, { on := 4, ground := Ground.phase }, { on := 5, ground := Ground.phase }, { on := 6, ground := Ground.phase }, { on := 7, ground := Ground.phase }, { on := 8, ground := Ground.phase }, { on := 9, ground := Ground.phase }, { on := 10, ground := Ground.phase }, { on := 11, ground := Ground.phase }, { on := 12, ground := Ground.phase }, { on := 13, ground := Ground.phase }, { on := 14, ground := Ground.phase }, { on := 15, ground := Ground.phase }, { on := 16, ground := Ground.phase }, { on := 17, ground := Ground.phase }, { on := 18, ground := Ground.phase }, { on := 19, ground := Ground.phase }, { on := 20, ground := Ground.phase }], guard := none }) (v := ?v15) rfl (by kernel_rfl) (by kernel_rfl) (by kernel_rfl) (fun _ _ _ h => h) (Or.inl ⟨by rfl, ?hy15⟩) hHeld ?rest15
  case hy15 => (intro w' hSw; (try dsimp only at hSw); go_simp; (try with_reducible rfl))
  try simp only [Act.put, List.setIfInBounds_toArray, List.set_cons_zero, List.set_cons_succ]
  refine wpAnyH_done (by kernel_rfl) ?_ _
  go_upto_region 2 with fail
  first
    | rw [HWd.out]
    | rw [show (Wa.alloc (.cells zs 59)).drew.setCells (w.heap.size + 1) 0 L = W1 from HWd.out]
  clear HS1 HTh HB1 HWd HZ SA ewq
  go_upto_region 6 with fail
  try rw [hd99]
  try rw [hd9]
  clear hq4 hd99 hq
  obtain ⟨L', hd', hc'⟩ := doc_setpart HHd.out q A n c p HPB.out
  have C1 := Lib.hid (HST.out.nn.setpart HHk.out HST.out.wb.below.size HST.out.hN q A n c w0.heap.size p (HPB.out _ HST.out.wb.below) HST.out.wb.below.size (by omega))
  have HC' := Lib.hid hc'
  have HD' := Lib.hid hd'
  have HLn2 := Lib.hid hd'.dn
  clear hc' hd'
  obtain ⟨er, her⟩ : ∃ er, closN x q = er := ⟨_, rfl⟩
  rw [her] at C1 HC'
  clear her
  go_wp2_with fail
  (with_reducible refine C1.out.mono ?_)
  rintro e w2 ⟨rfl, nn, kk⟩
  have S2 := Lib.hid (HST.out.node nn kk)
  have HR2 := Lib.hid (Lst.all S2.out.lg)
  have f5 : w2.cell? ⟨w.heap.size, 5, none⟩ = some (.slice A n c) := S2.out.ls.cell 5
  clear nn kk C1 HST e0 e2 e4 e5 e6
  go_wp2_with (refine wpList_load_mid rfl 59 (.tmp 8) rfl (w.heap.size + 1) 0 rfl L _ HR2.out Tryz.underlying59 rfl HLn.out.sz ?_)
  (with_reducible refine (HC'.out _).mono ?_)
  rintro e w3 ⟨rfl, h3⟩
  obtain ⟨s4, th4⟩ := (S2.out.on h3).lay HLn.out.len HLn2.out
  obtain ⟨w4, hw4⟩ : ∃ w4, w3.setCells (w.heap.size + 1) 0 L'.toArray.toList = w4 := ⟨_, rfl⟩
  rw [hw4] at s4
  have HT3 := Lib.hid th4
  have HW4 := Lib.hid hw4
  have S4 := Lib.hid s4
  clear hw4 s4 th4 h3 S2 HR2 HC'
  have hwb : Wb fb w0 w4.drew X cnt md (l.set k (g, nSetPart x q p)) l ds vl (.slice (some ⟨t2, 0, none⟩) ds.length cap2) := by have := S4.out.wb.on (Below.refl _ _).drew; rw [HV2.out] at this; rw [HHD.out.1]; exact this
  have hkd : k < ds.length := by rw [HHD.out.1]; omega
  obtain ⟨m1, m2⟩ := hwb.put hkd HLn2.out
  have HTh22 := Lib.hid (show w4.drew.there t2 (k * 261) L'.toArray.size from m2)
  have HS22 := Lib.hid (show w4.drew.cell? ⟨X, 2, none⟩ = some (.slice (some ⟨t2, 0, none⟩) l.length cap2) ∧ w4.drew.rangeAt (w.heap.size + 1) 0 L' from ⟨by have := hwb.cW; rw [HHD.out.1] at this; exact this, Lst.all (show Lst w4.drew _ _ from S4.out.lg)⟩)
  have hne2 : ¬ t2 = w.heap.size + 1 := fun e => S4.out.ne.1 (.inr (.inr (.inl (by rw [HV2.out]; rw [← e]; rfl))))
  have HS23 := Lib.hid (show (w4.drew.setCells t2 (k * 261) L'.toArray.toList).cell? ⟨X, 2, none⟩ = some (.slice (some ⟨t2, 0, none⟩) l.length cap2) ∧ (w4.drew.setCells t2 (k * 261) L'.toArray.toList).rangeAt (w.heap.size + 1) 0 L' from
    ⟨by have := m1.cW; rw [HHD.out.1] at this; exact this, Lst.all (show Lst (w4.drew.setCells t2 (k * 261) L'.toArray.toList) _ _ from (Kept.setCells (· = t2) w4.drew t2 (k * 261) L'.toArray.toList rfl).blk (show Lst w4.drew _ _ from S4.out.lg) (fun e => hne2 e.symm))⟩)
  have HE := Lib.hid (show ∃ l' ds', Wb fb w0 (w4.drew.setCells t2 (k * 261) L'.toArray.toList) X cnt md l' l' ds' vl vw ∧ Docs w0 l' ds' ∧ l'.length = l.length from by
    refine ⟨l.set k (g, nSetPart x q p), ds.set k L', ?_, HHD.out.set_ HHk.out HD'.out, by simp⟩
    have z := m1.relist (x' := nSetPart x q p) HHk.out
    rw [HHD.out.1, ← HV2.out] at z
    exact z)
  clear hwb m1 m2 hkd
  go_wp2_with (refine wpList_store_mid rfl 59 (.tmp 8) (.tmp 61) rfl (w.heap.size + 1) 0 L'.toArray rfl rfl HT3.out HLn2.out.szA HLn2.out.all1 ?_; rw [HW4.out])
  refine wp_region_held_drew (S := (fun w' => w'.cell? ⟨X, 2, none⟩ = some (.slice (some ⟨t2, 0, none⟩) l.length cap2) ∧ w'.rangeAt (w.heap.size + 1) 0 L')) (by kernel_rfl) HS22.out (fun hHeld => ?_)
  refine wpAnyH_take (i := 0) (oi := { dst := some 126, op := Op.move (Operand.tmp 0), type := 25, pos := "law.go:75", after := #[], guard := none }) (v := ?v16) rfl (by kernel_rfl) (by kernel_rfl) (by kernel_rfl) (fun _ _ _ h => h) (Or.inl ⟨by rfl, ?hy16⟩) hHeld ?rest16
  case hy16 => (intro w' hSw; (try dsimp only at hSw); go_simp; (try with_reducible rfl))
  try simp only [Act.put, List.setIfInBounds_toArray, List.set_cons_zero, List.set_cons_succ]
  refine wpAnyH_take (i := 1) (oi := { dst := some 127, op := Op.nilCheck (Operand.tmp 126), type := 0, pos := "law.go:75", after := #[{ on := 0, ground := Ground.data }], guard := none }) (v := ?v17) rfl (by kernel_rfl) (by kernel_rfl) (by kernel_rfl) (fun _ _ _ h => h) (Or.inl ⟨by rfl, ?hy17⟩) hHeld ?rest17
  case hy17 => (intro w' hSw; (try dsimp only at hSw); go_simp; (try with_reducible rfl))
  try simp only [Act.put, List.setIfInBounds_toArray, List.set_cons_zero, List.set_cons_succ]
  refine wpAnyH_take (i := 2) (oi := { dst := some 128, op := Op.fieldAddr 36 (Operand.tmp 127) 2, type := 0, pos := "law.go:75", after := #[{ on := 1, ground := Ground.data }], guard := none }) (v := ?v18) rfl (by kernel_rfl) (by kernel_rfl) (by kernel_rfl) (fun _ _ _ h => h) (Or.inl ⟨by rfl, ?hy18⟩) hHeld ?rest18
  case hy18 => (intro w' hSw; (try dsimp only at hSw); go_simp; (try with_reducible rfl))
  try simp only [Act.put, List.setIfInBounds_toArray, List.set_cons_zero, List.set_cons_succ]
  refine wpAnyH_take (i := 3) (oi := { dst := some 129, op := Op.load 34 (Operand.tmp 128), type := 34, pos := "law.go:75", after := #[{ on := 2, ground := Ground.data }], guard := none }) (v := ?v19) rfl (by kernel_rfl) (by kernel_rfl) (by kernel_rfl) (fun _ _ _ h => h) (Or.inl ⟨by rfl, ?hy19⟩) hHeld ?rest19
  case hy19 => (intro w' hSw; (try dsimp only at hSw); go_simp; (try with_reducible rfl))
  try simp only [Act.put, List.setIfInBounds_toArray, List.set_cons_zero, List.set_cons_succ]
  refine wpAnyH_take (i := 4) (oi := { dst := some 130, op := Op.move (Operand.tmp 2), type := 3, pos := "law.go:75", after := #[], guard := none }) (v := ?v20) rfl (by kernel_rfl) (by kernel_rfl) (by kernel_rfl) (fun _ _ _ h => h) (Or.inl ⟨by rfl, ?hy20⟩) hHeld ?rest20
  case hy20 => (intro w' hSw; (try dsimp only at hSw); go_simp; (try with_reducible rfl))
  try simp only [Act.put, List.setIfInBounds_toArray, List.set_cons_zero, List.set_cons_succ]
  refine wpAnyH_take (i := 5) (oi := { dst := some 131, op := Op.load 59 (Operand.tmp 8), type := 59, pos := "law.go:75", after := #[], guard := none }) (v := .agg L'.toArray) rfl (by kernel_rfl) (by kernel_rfl) (by kernel_rfl) (fun _ _ _ h => h) (yieldsIf_load_mid (by rfl) 59 (.tmp 8) rfl (w.heap.size + 1) 0 (by rfl) L' _ (fun _ h => h.2) Tryz.underlying59 rfl HLn2.out.sz) hHeld ?_
  try simp only [Act.put, List.setIfInBounds_toArray, List.set_cons_zero, List.set_cons_succ]
  refine wpAnyH_take (i := 6) (oi := { dst := some 132, op := Op.indexAddr 34 (Operand.tmp 129) (Operand.tmp 130), type := 0, pos := "law.go:75", after := #[{ on := 3, ground := Ground.data }, { on := 4, ground := Ground.data }, { on := 0, ground := Ground.phase }, { on := 1, ground := Ground.phase }, { on := 2, ground := Ground.phase }, { on := 3, ground := Ground.phase }, { on := 4, ground := Ground.phase }, { on := 5, ground := Ground.phase }], guard := none }) (v := .pointer (some ⟨t2, k * 261, none⟩)) rfl (by kernel_rfl) (by kernel_rfl) (by kernel_rfl) (fun _ _ _ h => h) (Or.inl ⟨by rfl, ?hyV⟩) hHeld ?_
  case hyV => (intro w' hSw; (try dsimp only at hSw); go_simp; (try rw [if_pos ⟨by omega, hkl⟩]); (try simp only [Int.toNat_natCast, Nat.zero_add]); (try rfl))
  try simp only [Act.put, List.setIfInBounds_toArray, List.set_cons_zero, List.set_cons_succ]
  refine wpAnyH_ready (rs := [7]) (by kernel_rfl) (by simp) (AllReadyH.cons (o := { dst := none, op := Op.store 59 (Operand.tmp 132) (Operand.tmp 131), type := 0, pos := "law.go:75", after := #[{ on := 6, ground := Ground.data }, { on := 5, ground := Ground.data }, { on := 0, ground := Ground.phase }, { on := 1, ground := Ground.phase }, { on := 2, ground := Ground.phase }, { on := 3, ground := Ground.phase }, { on := 4, ground := Ground.phase }, { on := 5, ground := Ground.phase }], guard := none }) rfl (fun K hK => ?_) AllReadyH.nil)
  rw [if_pos (by rfl)]
  refine wp_store_mid 59 (.tmp 132) (.tmp 131) rfl t2 (k * 261) L'.toArray (by rfl) (by rfl) HTh22.out HLn2.out.szA HLn2.out.all1 ?_
  refine hK.out _ _ HS23.out (fun hHeld' => ?_)
  clear hK K hHeld
  have hHeld := hHeld'
  clear hHeld'
  try simp only [Act.put, List.setIfInBounds_toArray, List.set_cons_zero, List.set_cons_succ]
  refine wpAnyH_done (by kernel_rfl) ?_ _
  go_wp2
  go_ret
  exact ⟨by simp, HE.out⟩

set_option linter.unusedSimpArgs false in
set_option maxRecDepth 100000 in
set_option maxHeartbeats 8000000 in
theorem wwrite_val {fb : FB} {w0 w : World} {X : Nat} {cnt md : Int} {l : List (Nat × Nd)} {ds : List (List Value)} {vl vw : Value} (h : Wb fb w0 w X cnt md l l ds vl vw) (hD : Docs w0 l ds) {k g : Nat} {x : Nd} (hk : l[k]? = some (g, x)) (hf : l.length ≤ 1000)
    (d i j o v : Int) (b : UInt8) (A : Option Addr) (n c : Nat) (p : List UInt8) (hB : ∀ V, Below w0.heap.size w0 V → Byt V w0.heap.size A n p) (hn : n ≤ 140737488351232) (ho : 0 ≤ o ∧ o ≤ 255) (hd0 : 0 ≤ d) (hd9 : d % 9 = 5) :
    Calls Tryz.prog 21 #[ptrN X, .agg #[.int .u8 d, .int .u16 i, .int .u16 j, .int .u8 o, .int .u8 (b.toNat : Int), .slice A n c, .int .u64 v], .int .i64 (k : Int)] w fun e w' =>
      e = .returned (.bool true) ∧ ∃ l' ds', Wb fb w0 w' X cnt md l' l' ds' vl vw ∧ Docs w0 l' ds' ∧ l'.length = l.length := by
  have HFN := Lib.hid (And.intro hf hn)
  obtain ⟨Wa, hWa⟩ : ∃ Wa, w.alloc (.cells #[.int .u8 d, .int .u16 i, .int .u16 j, .int .u8 o, .int .u8 (b.toNat : Int), .slice A n c, .int .u64 v] 41) = Wa := ⟨_, rfl⟩
  have ba : Below w.heap.size w Wa := by rw [← hWa]; exact (Below.refl _ _).alloc (Nat.le_refl _) _
  have sa : Wa.heap.size = w.heap.size + 1 := by rw [← hWa]; simp
  have na : Blk Wa w.heap.size #[.int .u8 d, .int .u16 i, .int .u16 j, .int .u8 o, .int .u8 (b.toNat : Int), .slice A n c, .int .u64 v] := by rw [← hWa]; exact Blk.new w _ _
  have ha := h.on ba
  have hkl0 := (List.getElem?_eq_some_iff.1 hk).1
  obtain ⟨L, hL⟩ : ∃ L, ds[k]? = some L := ⟨_, List.getElem?_eq_getElem (by rw [hD.1]; exact hkl0)⟩
  have hd := hD.2 k _ L hk hL
  obtain ⟨t, cap, hv, c1⟩ := ha.ptr hk
  obtain ⟨t2, cap2, hv2, c2, hlen⟩ := ha.dn hL
  rw [hD.1] at hv2
  have hkl : (k : Int) < (l.length : Int) := by omega
  have HLn := Lib.hid hd.dn
  have HS1 := Lib.hid (fun (V : World) (q : Below Wa.heap.size Wa V) => show V.cell? ⟨X, 1, none⟩ = some (.slice (some ⟨t, 0, none⟩) l.length cap) ∧ V.cell? ⟨t, k, none⟩ = some (ptrN g) ∧ V.cell? ⟨X, 2, none⟩ = some (.slice (some ⟨t2, 0, none⟩) l.length cap2) ∧ V.rangeAt t2 (k * 261) L ∧ V.cell? ⟨w.heap.size, 3, none⟩ = some (.int .u8 o) from by
    have hV := ha.on q
    obtain ⟨t', cap', hv', c1'⟩ := hV.ptr hk
    obtain ⟨t2', cap2', hv2', c2', _⟩ := hV.dn hL
    rw [hv] at hv'
    rw [hD.1] at hv2'
    rw [hv2] at hv2'
    injection hv' with e1 e2 e3
    injection e1 with e1
    injection hv2' with f1 f2 f3
    injection f1 with f1
    injection e1 with e1
    injection f1 with f1
    subst e1 f1
    have d1 := hV.cL
    have d2 := hV.cW
    rw [hv] at d1
    rw [hv2] at d2
    exact ⟨d1, c1', d2, c2', (na.below q na.lt).cell 3⟩)
  obtain ⟨q, hq⟩ : ∃ q : Int, o % 4 = q := ⟨_, rfl⟩
  have hq4 : o.tmod 4 = o % 4 := Int.tmod_eq_emod_of_nonneg ho.1
  have hd99 : d.tmod 9 = d % 9 := Int.tmod_eq_emod_of_nonneg hd0
  have ewq : IntKind.u64.wrap q = q := by simp [IntKind.wrap, IntKind.bits, IntKind.signed]; omega
  have HZ := Lib.hid dn_zero
  generalize hzs : zeroN.toArray = zs at HZ
  have HTh := Lib.hid (show (Wa.drew.alloc (.cells zs 59)).there (w.heap.size + 1) 0 L.toArray.size from by
    rw [← hzs, ← sa]; exact Lst.there (l := zeroN) (Blk.new Wa.drew _ _) (by rw [zeroN_length, List.size_toArray, hlen]; exact Nat.le_refl _))
  obtain ⟨W1, hW1⟩ : ∃ W1, (Wa.drew.alloc (.cells zs 59)).setCells (w.heap.size + 1) 0 L.toArray.toList = W1 := ⟨_, rfl⟩
  have lW : Lst W1 (w.heap.size + 1) L := by rw [← hW1, ← hzs, ← sa]; exact dn_over (Blk.new Wa.drew _ _) zeroN_length HLn.out
  have bW : Below Wa.heap.size Wa W1 := by
    rw [← hW1]
    have q1 : Below Wa.heap.size Wa (Wa.drew.alloc (.cells zs 59)) := (Below.refl _ _).drew.alloc (Nat.le_refl _) _
    exact q1.trans ((Kept.setCells (· = w.heap.size + 1) _ _ _ _ rfl).below (B := Wa.heap.size) q1.size (fun i e => by omega))
  have HB1 := Lib.hid (show Below Wa.heap.size Wa ((Wa.drew.alloc (.cells zs 59)).setCells (w.heap.size + 1) 0 L.toArray.toList) from by rw [hW1]; exact bW)
  have SA := Lib.hid sa
  have HST := Lib.hid (Ws.start h (ba.trans (bW.mono ba.size)) (na.below bW na.lt) lW)
  have HWd := Lib.hid hW1
  have HHD := Lib.hid hD
  have HHd := Lib.hid hd
  have HV2 := Lib.hid hv2
  have HUp := Lib.hid (h.nd.up_ hk)
  have HHk := Lib.hid hk
  have HPB := Lib.hid hB
  have e0 : W1.cell? ⟨w.heap.size, 0, none⟩ = some (.int .u8 d) := HST.out.ls.cell 0
  have e2 : W1.cell? ⟨w.heap.size, 2, none⟩ = some (.int .u16 j) := HST.out.ls.cell 2
  have e4 : W1.cell? ⟨w.heap.size, 4, none⟩ = some (.int .u8 (b.toNat : Int)) := HST.out.ls.cell 4
  have e5 : W1.cell? ⟨w.heap.size, 5, none⟩ = some (.slice A n c) := HST.out.ls.cell 5
  have e6 : W1.cell? ⟨w.heap.size, 6, none⟩ = some (.int .u64 v) := HST.out.ls.cell 6
  clear hW1 hzs c1 c2 hlen hL hD hd ba ha na bW lW hv2 h hk hB hkl0
  have HV1 := Lib.hid hv
  clear hv
  go_enter Tryz.func21, Tryz.ntmps21
  go_wp2_with fail
  try rw [hWa]
  clear hWa
  refine wp_region_held_drew (S := (fun w' => w'.cell? ⟨X, 1, none⟩ = some (.slice (some ⟨t, 0, none⟩) l.length cap) ∧ w'.cell? ⟨t, k, none⟩ = some (ptrN g) ∧ w'.cell? ⟨X, 2, none⟩ = some (.slice (some ⟨t2, 0, none⟩) l.length cap2) ∧ w'.rangeAt t2 (k * 261) L ∧ w'.cell? ⟨w.heap.size, 3, none⟩ = some (.int .u8 o))) (by kernel_rfl) (HS1.out _ (Below.refl _ _).drew) (fun hHeld => ?_)
  refine wpAnyH_take (i := 0) (oi := { dst := some 14, op := Op.move (Operand.tmp 0), type := 25, pos := "law.go:51", after := #[], guard := none }) (v := ?v1) rfl (by kernel_rfl) (by kernel_rfl) (by kernel_rfl) (fun _ _ _ h => h) (Or.inl ⟨by rfl, ?hy1⟩) hHeld ?rest1
  case hy1 => (intro w' hSw; (try dsimp only at hSw); go_simp; (try with_reducible rfl))
  try simp only [Act.put, List.setIfInBounds_toArray, List.set_cons_zero, List.set_cons_succ]
  refine wpAnyH_take (i := 1) (oi := { dst := some 15, op := Op.nilCheck (Operand.tmp 14), type := 0, pos := "law.go:51", after := #[{ on := 0, ground := Ground.data }], guard := none }) (v := ?v2) rfl (by kernel_rfl) (by kernel_rfl) (by kernel_rfl) (fun _ _ _ h => h) (Or.inl ⟨by rfl, ?hy2⟩) hHeld ?rest2
  case hy2 => (intro w' hSw; (try dsimp only at hSw); go_simp; (try with_reducible rfl))
  try simp only [Act.put, List.setIfInBounds_toArray, List.set_cons_zero, List.set_cons_succ]
  refine wpAnyH_take (i := 2) (oi := { dst := some 16, op := Op.fieldAddr 36 (Operand.tmp 15) 1, type := 0, pos := "law.go:51", after := #[{ on := 1, ground := Ground.data }], guard := none }) (v := ?v3) rfl (by kernel_rfl) (by kernel_rfl) (by kernel_rfl) (fun _ _ _ h => h) (Or.inl ⟨by rfl, ?hy3⟩) hHeld ?rest3
  case hy3 => (intro w' hSw; (try dsimp only at hSw); go_simp; (try with_reducible rfl))
  try simp only [Act.put, List.setIfInBounds_toArray, List.set_cons_zero, List.set_cons_succ]
  refine wpAnyH_take (i := 3) (oi := { dst := some 17, op := Op.load 33 (Operand.tmp 16), type := 33, pos := "law.go:51", after := #[{ on := 2, ground := Ground.data }], guard := none }) (v := ?v4) rfl (by kernel_rfl) (by kernel_rfl) (by kernel_rfl) (fun _ _ _ h => h) (Or.inl ⟨by rfl, ?hy4⟩) hHeld ?rest4
  case hy4 => (intro w' hSw; (try dsimp only at hSw); go_simp; (try with_reducible rfl))
  try simp only [Act.put, List.setIfInBounds_toArray, List.set_cons_zero, List.set_cons_succ]
  refine wpAnyH_take (i := 4) (oi := { dst := some 18, op := Op.move (Operand.tmp 2), type := 3, pos := "law.go:51", after := #[], guard := none }) (v := ?v5) rfl (by kernel_rfl) (by kernel_rfl) (by kernel_rfl) (fun _ _ _ h => h) (Or.inl ⟨by rfl, ?hy5⟩) hHeld ?rest5
  case hy5 => (intro w' hSw; (try dsimp only at hSw); go_simp; (try with_reducible rfl))
  try simp only [Act.put, List.setIfInBounds_toArray, List.set_cons_zero, List.set_cons_succ]
  refine wpAnyH_take (i := 5) (oi := { dst := some 19, op := Op.indexAddr 33 (Operand.tmp 17) (Operand.tmp 18), type := 0, pos := "law.go:51", after := #[{ on := 3, ground := Ground.data }, { on := 4, ground := Ground.data }], guard := none }) (v := .pointer (some ⟨t, k, none⟩)) rfl (by kernel_rfl) (by kernel_rfl) (by kernel_rfl) (fun _ _ _ h => h) (Or.inl ⟨by rfl, ?hyV⟩) hHeld ?_
  case hyV => (intro w' hSw; (try dsimp only at hSw); go_simp; (try rw [if_pos ⟨by omega, hkl⟩]); (try simp only [Int.toNat_natCast, Nat.mul_one, Nat.zero_add]); (try rfl))
  try simp only [Act.put, List.setIfInBounds_toArray, List.set_cons_zero, List.set_cons_succ]
  refine wpAnyH_take (i := 6) (oi := { dst := some 20, op := Op.load 46 (Operand.tmp 19), type := 46, pos := "law.go:51", after := #[{ on := 5, ground := Ground.data }], guard := none }) (v := ?v6) rfl (by kernel_rfl) (by kernel_rfl) (by kernel_rfl) (fun _ _ _ h => h) (Or.inl ⟨by rfl, ?hy6⟩) hHeld ?rest6
  case hy6 => (intro w' hSw; (try dsimp only at hSw); go_simp; (try with_reducible rfl))
  try simp only [Act.put, List.setIfInBounds_toArray, List.set_cons_zero, List.set_cons_succ]
  refine wpAnyH_take (i := 7) (oi := { dst := some 21, op := Op.move (Operand.tmp 0), type := 25, pos := "law.go:51", after := #[{ on := 19, ground := Ground.gcOnly Departure.lateStores }], guard := none }) (v := ?v7) rfl (by kernel_rfl) (by kernel_rfl) (by kernel_rfl) (fun _ _ _ h => h) (Or.inl ⟨by rfl, ?hy7⟩) hHeld ?rest7
  case hy7 => (intro w' hSw; (try dsimp only at hSw); go_simp; (try with_reducible rfl))
  try simp only [Act.put, List.setIfInBounds_toArray, List.set_cons_zero, List.set_cons_succ]
  refine wpAnyH_take (i := 8) (oi := { dst := some 22, op := Op.nilCheck (Operand.tmp 21), type := 0, pos := "law.go:51", after := #[{ on := 7, ground := Ground.data }, { on := 19, ground := Ground.gcOnly Departure.lateStores }], guard := none }) (v := ?v8) rfl (by kernel_rfl) (by kernel_rfl) (by kernel_rfl) (fun _ _ _ h => h) (Or.inl ⟨by rfl, ?hy8⟩) hHeld ?rest8
  case hy8 => (intro w' hSw; (try dsimp only at hSw); go_simp; (try with_reducible rfl))
  try simp only [Act.put, List.setIfInBounds_toArray, List.set_cons_zero, List.set_cons_succ]
  refine wpAnyH_take (i := 9) (oi := { dst := some 23, op := Op.fieldAddr 36 (Operand.tmp 22) 2, type := 0, pos := "law.go:51", after := #[{ on := 8, ground := Ground.data }, { on := 19, ground := Ground.gcOnly Departure.lateStores }], guard := none }) (v := ?v9) rfl (by kernel_rfl) (by kernel_rfl) (by kernel_rfl) (fun _ _ _ h => h) (Or.inl ⟨by rfl, ?hy9⟩) hHeld ?rest9
  case hy9 => (intro w' hSw; (try dsimp only at hSw); go_simp; (try with_reducible rfl))
  try simp only [Act.put, List.setIfInBounds_toArray, List.set_cons_zero, List.set_cons_succ]
  refine wpAnyH_take (i := 10) (oi := { dst := some 24, op := Op.load 34 (Operand.tmp 23), type := 34, pos := "law.go:51", after := #[{ on := 9, ground := Ground.data }, { on := 19, ground := Ground.gcOnly Departure.lateStores }], guard := none }) (v := ?v10) rfl (by kernel_rfl) (by kernel_rfl) (by kernel_rfl) (fun _ _ _ h => h) (Or.inl ⟨by rfl, ?hy10⟩) hHeld ?rest10
  case hy10 => (intro w' hSw; (try dsimp only at hSw); go_simp; (try with_reducible rfl))
  try simp only [Act.put, List.setIfInBounds_toArray, List.set_cons_zero, List.set_cons_succ]
  refine wpAnyH_take (i := 11) (oi := { dst := some 25, op := Op.move (Operand.tmp 2), type := 3, pos := "law.go:51", after := #[{ on := 19, ground := Ground.gcOnly Departure.lateStores }], guard := none }) (v := ?v11) rfl (by kernel_rfl) (by kernel_rfl) (by kernel_rfl) (fun _ _ _ h => h) (Or.inl ⟨by rfl, ?hy11⟩) hHeld ?rest11
  case hy11 => (intro w' hSw; (try dsimp only at hSw); go_simp; (try with_reducible rfl))
  try simp only [Act.put, List.setIfInBounds_toArray, List.set_cons_zero, List.set_cons_succ]
  refine wpAnyH_take (i := 12) (oi := { dst := some 26, op := Op.indexAddr 34 (Operand.tmp 24) (Operand.tmp 25), type := 0, pos := "law.go:51", after := #[{ on := 10, ground := Ground.data }, { on := 11, ground := Ground.data }, { on := 19, ground := Ground.gcOnly Departure.lateStores }], guard := none }) (v := .pointer (some ⟨t2, k * 261, none⟩)) rfl (by kernel_rfl) (by kernel_rfl) (by kernel_rfl) (fun _ _ _ h => h) (Or.inl ⟨by rfl, ?hyV⟩) hHeld ?_
  case hyV => (intro w' hSw; (try dsimp only at hSw); go_simp; (try rw [if_pos ⟨by omega, hkl⟩]); (try simp only [Int.toNat_natCast, Nat.zero_add]); (try rfl))
  try simp only [Act.put, List.setIfInBounds_toArray, List.set_cons_zero, List.set_cons_succ]
  refine wpAnyH_take (i := 13) (oi := { dst := some 27, op := Op.load 59 (Operand.tmp 26), type := 59, pos := "law.go:51", after := #[{ on := 12, ground := Ground.data }, { on := 19, ground := Ground.gcOnly Departure.lateStores }], guard := none }) (v := .agg L.toArray) rfl (by kernel_rfl) (by kernel_rfl) (by kernel_rfl) (fun _ _ _ h => h) (yieldsIf_load_mid (by rfl) 59 (.tmp 26) rfl t2 (k * 261) (by rfl) L _ (fun _ h => h.2.2.2.1) Tryz.underlying59 rfl HLn.out.sz) hHeld ?_
  try simp only [Act.put, List.setIfInBounds_toArray, List.set_cons_zero, List.set_cons_succ]
  refine wpAnyH_take (i := 14) (oi := { dst := some 28, op := Op.fieldAddr 41 (Operand.tmp 4) 3, type := 0, pos := "law.go:51", after := #[{ on := 20, ground := Ground.gcOnly Departure.lateStores }], guard := none }) (v := ?v12) rfl (by kernel_rfl) (by kernel_rfl) (by kernel_rfl) (fun _ _ _ h => h) (Or.inl ⟨by rfl, ?hy12⟩) hHeld ?rest12
  case hy12 => (intro w' hSw; (try dsimp only at hSw); go_simp; (try with_reducible rfl))
  try simp only [Act.put, List.setIfInBounds_toArray, List.set_cons_zero, List.set_cons_succ]
  refine wpAnyH_take (i := 15) (oi := { dst := some 29, op := Op.load 5 (Operand.tmp 28), type := 5, pos := "law.go:51", after := #[{ on := 14, ground := Ground.data }, { on := 20, ground := Ground.gcOnly Departure.lateStores }], guard := none }) (v := ?v13) rfl (by kernel_rfl) (by kernel_rfl) (by kernel_rfl) (fun _ _ _ h => h) (Or.inl ⟨by rfl, ?hy13⟩) hHeld ?rest13
  case hy13 => (intro w' hSw; (try dsimp only at hSw); go_simp; (try with_reducible rfl))
  try simp only [Act.put, List.setIfInBounds_toArray, List.set_cons_zero, List.set_cons_succ]
  refine wpAnyH_take (i := 16) (oi := { dst := some 30, op := Op.binOp BinOp.rem 5 (Operand.tmp 29) (Operand.const (Value.int IntKind.u8 4)) 5, type := 5, pos := "law.go:51", after := #[{ on := 15, ground := Ground.data }, { on := 20, ground := Ground.gcOnly Departure.lateStores }], guard := none }) (v := .int .u8 q) rfl (by kernel_rfl) (by kernel_rfl) (by kernel_rfl) (fun _ _ _ h => h) (Or.inl ⟨by rfl, ?hyV⟩) hHeld ?_
  case hyV => (intro w' hSw; (try dsimp only at hSw); go_simp; (try rw [hq4]); (try rw [hq]); (try rfl))
  try simp only [Act.put, List.setIfInBounds_toArray, List.set_cons_zero, List.set_cons_succ]
  refine wpAnyH_take (i := 17) (oi := { dst := some 31, op := Op.convert 5 39 (Operand.tmp 30), type := 39, pos := "law.go:51", after := #[{ on := 16, ground := Ground.data }, { on := 20, ground := Ground.gcOnly Departure.lateStores }], guard := none }) (v := .int .u64 q) rfl (by kernel_rfl) (by kernel_rfl) (by kernel_rfl) (fun _ _ _ h => h) (Or.inl ⟨by rfl, ?hyV⟩) hHeld ?_
  case hyV => (intro w' hSw; (try dsimp only at hSw); go_simp; (try rw [ewq]); (try rfl))
  try simp only [Act.put, List.setIfInBounds_toArray, List.set_cons_zero, List.set_cons_succ]
  refine wpAnyH_ready (rs := [18]) (by kernel_rfl) (by simp) (AllReadyH.cons (o := { dst := some 8, op := Op.alloc 59, type := 0, pos := "law.go:51", after := #[], guard := none }) rfl (fun K hK => ?_) AllReadyH.nil)
  rw [if_pos (by rfl)]
  refine wp_alloc_z 59 rfl zs HZ.out ?_
  refine hK.out _ _ (HS1.out _ ((Below.refl _ _).drew.alloc (Nat.le_refl _) _)) (fun hHeld' => ?_)
  clear hK K hHeld
  have hHeld := hHeld'
  clear hHeld'
  try simp only [Act.put, List.setIfInBounds_toArray, List.set_cons_zero, List.set_cons_succ]
  refine wpAnyH_take (i := 19) (oi := { dst := some 7, op := Op.assign (Operand.tmp 20), type := 46, pos := "law.go:51", after := #[{ on := 6, ground := Ground.data }, { on := 0, ground := Ground.phase }, { on := 1, ground := Ground.phase }, { on := 2, ground := Ground.phase }, { on := 3, ground := Ground.phase }, { on := 4, ground := Ground.phase }, { on := 5, ground := Ground.phase }, { on := 6, ground := Ground.phase }, { on := 7, ground := Ground.textOnly Departure.lateStores }, { on := 8, ground := Ground.textOnly Departure.lateStores }, { on := 9, ground := Ground.textOnly Departure.lateStores }, { on := 10, ground := Ground.textOnly Departure.lateStores }, { on := 11, ground := Ground.textOnly Departure.lateStores }, { on := 12, ground := Ground.textOnly Departure.lateStores }, { on := 13, ground := Ground.textOnly Departure.lateStores }, { on := 14, ground := Ground.textOnly Departure.lateStores }, { on := 15, ground := Ground.textOnly Departure.lateStores }, { on := 16, ground := Ground.textOnly Departure.lateStores }, { on := 17, ground := Ground.textOnly Departure.lateStores }, { on := 18, ground := Ground.phase }], guard := none }) (v := ?v14) rfl (by kernel_rfl) (by kernel_rfl) (by kernel_rfl) (fun _ _ _ h => h) (Or.inl ⟨by rfl, ?hy14⟩) hHeld ?rest14
  case hy14 => (intro w' hSw; (try dsimp only at hSw); go_simp; (try with_reducible rfl))
  try simp only [Act.put, List.setIfInBounds_toArray, List.set_cons_zero, List.set_cons_succ]
  refine wpAnyH_ready (rs := [20]) (by kernel_rfl) (by simp) (AllReadyH.cons (o := { dst := none, op := Op.store 59 (Operand.tmp 8) (Operand.tmp 27), type := 0, pos := "law.go:51", after := #[{ on := 18, ground := Ground.data }, { on := 13, ground := Ground.data }, { on := 19, ground := Ground.chain }, { on := 0, ground := Ground.phase }, { on := 1, ground := Ground.phase }, { on := 2, ground := Ground.phase }, { on := 3, ground := Ground.phase }, { on := 4, ground := Ground.phase }, { on := 5, ground := Ground.phase }, { on := 6, ground := Ground.phase }, { on := 7, ground := Ground.phase }, { on := 8, ground := Ground.phase }, { on := 9, ground := Ground.phase }, { on := 10, ground := Ground.phase }, { on := 11, ground := Ground.phase }, { on := 12, ground := Ground.phase }, { on := 13, ground := Ground.phase }, { on := 14, ground := Ground.textOnly Departure.lateStores }, { on := 15, ground := Ground.textOnly Departure.lateStores }, { on := 16, ground := Ground.textOnly Departure.lateStores }, { on := 17, ground := Ground.textOnly Departure.lateStores }, { on := 18, ground := Ground.phase }, { on := 19, ground := Ground.phase }], guard := none }) rfl (fun K hK => ?_) AllReadyH.nil)
  rw [if_pos (by rfl)]
  refine wp_store_mid 59 (.tmp 8) (.tmp 27) rfl (w.heap.size + 1) 0 L.toArray (by rw [← SA.out]; rfl) (by rfl) HTh.out HLn.out.szA HLn.out.all1 ?_
  refine hK.out _ _ (HS1.out _ HB1.out) (fun hHeld' => ?_)
  clear hK K hHeld
  have hHeld := hHeld'
  clear hHeld'
  try simp only [Act.put, List.setIfInBounds_toArray, List.set_cons_zero, List.set_cons_succ]
  refine wpAnyH_take (i := 21) (oi := { dst := some 9, op := Op.assign (Operand.tmp 31), type := 39, pos := "law.go:51", after := #[{ on := 17, ground := Ground.data }, { on := 20, ground := Ground.chain }, { on := 0, ground := Ground.phase }, { on := 1, ground := Ground.phase }, { on := 2, ground := Ground.phase }, { on := 3, ground := Ground.phase }, { on := 4, ground := Ground.phase }, { on := 5, ground := Ground.phase }, { on := 6, ground := Ground.phase }, { on := 7, ground := Ground.phase }, { on := 8, ground := Ground.phase }, { on := 9, ground := Ground.phase }, { on := 10, ground := Ground.phase }, { on := 11, ground := Ground.phase }, { on := 12, ground := Ground.phase }, { on := 13, ground := Ground.phase }, { on := 14, ground := Ground.phase }, { on := 15, ground := Ground.phase }, { on := 16, ground := Ground.phase }, { on := 17, ground := Ground.phase }, { on := 18, ground := Ground.phase }, { on := 19, ground := Ground.phase }, { on := 20, ground := Ground.phase }], guard := none }) (v := ?v15) rfl (by kernel_rfl) (by kernel_rfl) (by kernel_rfl) (fun _ _ _ h => h) (Or.inl ⟨by rfl, ?hy15⟩) hHeld ?rest15
  case hy15 => (intro w' hSw; (try dsimp only at hSw); go_simp; (try with_reducible rfl))
  try simp only [Act.put, List.setIfInBounds_toArray, List.set_cons_zero, List.set_cons_succ]
  refine wpAnyH_done (by kernel_rfl) ?_ _
  go_upto_region 2 with fail
  first
    | rw [HWd.out]
    | rw [show (Wa.alloc (.cells zs 59)).drew.setCells (w.heap.size + 1) 0 L = W1 from HWd.out]
  clear HS1 HTh HB1 HWd HZ SA ewq
  go_upto_region 6 with fail
  try rw [hd99]
  try rw [hd9]
  clear hq4 hd99 hq
  obtain ⟨L', hd', hc'⟩ := doc_setval HHd.out q v
  have C1 := Lib.hid (HST.out.nn.setval HHk.out HST.out.wb.below.size HST.out.hN q v)
  have HC' := Lib.hid hc'
  have HD' := Lib.hid hd'
  have HLn2 := Lib.hid hd'.dn
  clear hc' hd'
  obtain ⟨er, her⟩ : ∃ er, closN x q = er := ⟨_, rfl⟩
  rw [her] at C1 HC'
  clear her
  go_wp2_with fail
  (with_reducible refine C1.out.mono ?_)
  rintro e w2 ⟨rfl, nn, kk⟩
  have S2 := Lib.hid (HST.out.node nn kk)
  have HR2 := Lib.hid (Lst.all S2.out.lg)
  have f6 : w2.cell? ⟨w.heap.size, 6, none⟩ = some (.int .u64 v) := S2.out.ls.cell 6
  clear nn kk C1 HST e0 e2 e4 e5 e6
  go_wp2_with (refine wpList_load_mid rfl 59 (.tmp 8) rfl (w.heap.size + 1) 0 rfl L _ HR2.out Tryz.underlying59 rfl HLn.out.sz ?_)
  (with_reducible refine (HC'.out _).mono ?_)
  rintro e w3 ⟨rfl, h3⟩
  obtain ⟨s4, th4⟩ := (S2.out.on h3).lay HLn.out.len HLn2.out
  obtain ⟨w4, hw4⟩ : ∃ w4, w3.setCells (w.heap.size + 1) 0 L'.toArray.toList = w4 := ⟨_, rfl⟩
  rw [hw4] at s4
  have HT3 := Lib.hid th4
  have HW4 := Lib.hid hw4
  have S4 := Lib.hid s4
  clear hw4 s4 th4 h3 S2 HR2 HC'
  have hwb : Wb fb w0 w4.drew X cnt md (l.set k (g, nSetVal x q v)) l ds vl (.slice (some ⟨t2, 0, none⟩) ds.length cap2) := by have := S4.out.wb.on (Below.refl _ _).drew; rw [HV2.out] at this; rw [HHD.out.1]; exact this
  have hkd : k < ds.length := by rw [HHD.out.1]; omega
  obtain ⟨m1, m2⟩ := hwb.put hkd HLn2.out
  have HTh22 := Lib.hid (show w4.drew.there t2 (k * 261) L'.toArray.size from m2)
  have HS22 := Lib.hid (show w4.drew.cell? ⟨X, 2, none⟩ = some (.slice (some ⟨t2, 0, none⟩) l.length cap2) ∧ w4.drew.rangeAt (w.heap.size + 1) 0 L' from ⟨by have := hwb.cW; rw [HHD.out.1] at this; exact this, Lst.all (show Lst w4.drew _ _ from S4.out.lg)⟩)
  have hne2 : ¬ t2 = w.heap.size + 1 := fun e => S4.out.ne.1 (.inr (.inr (.inl (by rw [HV2.out]; rw [← e]; rfl))))
  have HS23 := Lib.hid (show (w4.drew.setCells t2 (k * 261) L'.toArray.toList).cell? ⟨X, 2, none⟩ = some (.slice (some ⟨t2, 0, none⟩) l.length cap2) ∧ (w4.drew.setCells t2 (k * 261) L'.toArray.toList).rangeAt (w.heap.size + 1) 0 L' from
    ⟨by have := m1.cW; rw [HHD.out.1] at this; exact this, Lst.all (show Lst (w4.drew.setCells t2 (k * 261) L'.toArray.toList) _ _ from (Kept.setCells (· = t2) w4.drew t2 (k * 261) L'.toArray.toList rfl).blk (show Lst w4.drew _ _ from S4.out.lg) (fun e => hne2 e.symm))⟩)
  have HE := Lib.hid (show ∃ l' ds', Wb fb w0 (w4.drew.setCells t2 (k * 261) L'.toArray.toList) X cnt md l' l' ds' vl vw ∧ Docs w0 l' ds' ∧ l'.length = l.length from by
    refine ⟨l.set k (g, nSetVal x q v), ds.set k L', ?_, HHD.out.set_ HHk.out HD'.out, by simp⟩
    have z := m1.relist (x' := nSetVal x q v) HHk.out
    rw [HHD.out.1, ← HV2.out] at z
    exact z)
  clear hwb m1 m2 hkd
  go_wp2_with (refine wpList_store_mid rfl 59 (.tmp 8) (.tmp 76) rfl (w.heap.size + 1) 0 L'.toArray rfl rfl HT3.out HLn2.out.szA HLn2.out.all1 ?_; rw [HW4.out])
  refine wp_region_held_drew (S := (fun w' => w'.cell? ⟨X, 2, none⟩ = some (.slice (some ⟨t2, 0, none⟩) l.length cap2) ∧ w'.rangeAt (w.heap.size + 1) 0 L')) (by kernel_rfl) HS22.out (fun hHeld => ?_)
  refine wpAnyH_take (i := 0) (oi := { dst := some 126, op := Op.move (Operand.tmp 0), type := 25, pos := "law.go:75", after := #[], guard := none }) (v := ?v16) rfl (by kernel_rfl) (by kernel_rfl) (by kernel_rfl) (fun _ _ _ h => h) (Or.inl ⟨by rfl, ?hy16⟩) hHeld ?rest16
  case hy16 => (intro w' hSw; (try dsimp only at hSw); go_simp; (try with_reducible rfl))
  try simp only [Act.put, List.setIfInBounds_toArray, List.set_cons_zero, List.set_cons_succ]
  refine wpAnyH_take (i := 1) (oi := { dst := some 127, op := Op.nilCheck (Operand.tmp 126), type := 0, pos := "law.go:75", after := #[{ on := 0, ground := Ground.data }], guard := none }) (v := ?v17) rfl (by kernel_rfl) (by kernel_rfl) (by kernel_rfl) (fun _ _ _ h => h) (Or.inl ⟨by rfl, ?hy17⟩) hHeld ?rest17
  case hy17 => (intro w' hSw; (try dsimp only at hSw); go_simp; (try with_reducible rfl))
  try simp only [Act.put, List.setIfInBounds_toArray, List.set_cons_zero, List.set_cons_succ]
  refine wpAnyH_take (i := 2) (oi := { dst := some 128, op := Op.fieldAddr 36 (Operand.tmp 127) 2, type := 0, pos := "law.go:75", after := #[{ on := 1, ground := Ground.data }], guard := none }) (v := ?v18) rfl (by kernel_rfl) (by kernel_rfl) (by kernel_rfl) (fun _ _ _ h => h) (Or.inl ⟨by rfl, ?hy18⟩) hHeld ?rest18
  case hy18 => (intro w' hSw; (try dsimp only at hSw); go_simp; (try with_reducible rfl))
  try simp only [Act.put, List.setIfInBounds_toArray, List.set_cons_zero, List.set_cons_succ]
  refine wpAnyH_take (i := 3) (oi := { dst := some 129, op := Op.load 34 (Operand.tmp 128), type := 34, pos := "law.go:75", after := #[{ on := 2, ground := Ground.data }], guard := none }) (v := ?v19) rfl (by kernel_rfl) (by kernel_rfl) (by kernel_rfl) (fun _ _ _ h => h) (Or.inl ⟨by rfl, ?hy19⟩) hHeld ?rest19
  case hy19 => (intro w' hSw; (try dsimp only at hSw); go_simp; (try with_reducible rfl))
  try simp only [Act.put, List.setIfInBounds_toArray, List.set_cons_zero, List.set_cons_succ]
  refine wpAnyH_take (i := 4) (oi := { dst := some 130, op := Op.move (Operand.tmp 2), type := 3, pos := "law.go:75", after := #[], guard := none }) (v := ?v20) rfl (by kernel_rfl) (by kernel_rfl) (by kernel_rfl) (fun _ _ _ h => h) (Or.inl ⟨by rfl, ?hy20⟩) hHeld ?rest20
  case hy20 => (intro w' hSw; (try dsimp only at hSw); go_simp; (try with_reducible rfl))
  try simp only [Act.put, List.setIfInBounds_toArray, List.set_cons_zero, List.set_cons_succ]
  refine wpAnyH_take (i := 5) (oi := { dst := some 131, op := Op.load 59 (Operand.tmp 8), type := 59, pos := "law.go:75", after := #[], guard := none }) (v := .agg L'.toArray) rfl (by kernel_rfl) (by kernel_rfl) (by kernel_rfl) (fun _ _ _ h => h) (yieldsIf_load_mid (by rfl) 59 (.tmp 8) rfl (w.heap.size + 1) 0 (by rfl) L' _ (fun _ h => h.2) Tryz.underlying59 rfl HLn2.out.sz) hHeld ?_
  try simp only [Act.put, List.setIfInBounds_toArray, List.set_cons_zero, List.set_cons_succ]
  refine wpAnyH_take (i := 6) (oi := { dst := some 132, op := Op.indexAddr 34 (Operand.tmp 129) (Operand.tmp 130), type := 0, pos := "law.go:75", after := #[{ on := 3, ground := Ground.data }, { on := 4, ground := Ground.data }, { on := 0, ground := Ground.phase }, { on := 1, ground := Ground.phase }, { on := 2, ground := Ground.phase }, { on := 3, ground := Ground.phase }, { on := 4, ground := Ground.phase }, { on := 5, ground := Ground.phase }], guard := none }) (v := .pointer (some ⟨t2, k * 261, none⟩)) rfl (by kernel_rfl) (by kernel_rfl) (by kernel_rfl) (fun _ _ _ h => h) (Or.inl ⟨by rfl, ?hyV⟩) hHeld ?_
  case hyV => (intro w' hSw; (try dsimp only at hSw); go_simp; (try rw [if_pos ⟨by omega, hkl⟩]); (try simp only [Int.toNat_natCast, Nat.zero_add]); (try rfl))
  try simp only [Act.put, List.setIfInBounds_toArray, List.set_cons_zero, List.set_cons_succ]
  refine wpAnyH_ready (rs := [7]) (by kernel_rfl) (by simp) (AllReadyH.cons (o := { dst := none, op := Op.store 59 (Operand.tmp 132) (Operand.tmp 131), type := 0, pos := "law.go:75", after := #[{ on := 6, ground := Ground.data }, { on := 5, ground := Ground.data }, { on := 0, ground := Ground.phase }, { on := 1, ground := Ground.phase }, { on := 2, ground := Ground.phase }, { on := 3, ground := Ground.phase }, { on := 4, ground := Ground.phase }, { on := 5, ground := Ground.phase }], guard := none }) rfl (fun K hK => ?_) AllReadyH.nil)
  rw [if_pos (by rfl)]
  refine wp_store_mid 59 (.tmp 132) (.tmp 131) rfl t2 (k * 261) L'.toArray (by rfl) (by rfl) HTh22.out HLn2.out.szA HLn2.out.all1 ?_
  refine hK.out _ _ HS23.out (fun hHeld' => ?_)
  clear hK K hHeld
  have hHeld := hHeld'
  clear hHeld'
  try simp only [Act.put, List.setIfInBounds_toArray, List.set_cons_zero, List.set_cons_succ]
  refine wpAnyH_done (by kernel_rfl) ?_ _
  go_wp2
  go_ret
  exact ⟨by simp, HE.out⟩

set_option linter.unusedSimpArgs false in
set_option maxRecDepth 100000 in
set_option maxHeartbeats 8000000 in
theorem wwrite_drop {fb : FB} {w0 w : World} {X : Nat} {cnt md : Int} {l : List (Nat × Nd)} {ds : List (List Value)} {vl vw : Value} (h : Wb fb w0 w X cnt md l l ds vl vw) (hD : Docs w0 l ds) {k g : Nat} {x : Nd} (hk : l[k]? = some (g, x)) (hf : l.length ≤ 1000)
    (d i j o v : Int) (b : UInt8) (A : Option Addr) (n c : Nat) (p : List UInt8) (hB : ∀ V, Below w0.heap.size w0 V → Byt V w0.heap.size A n p) (hn : n ≤ 140737488351232) (ho : 0 ≤ o ∧ o ≤ 255) (hd0 : 0 ≤ d) (hd9 : d % 9 = 6) :
    Calls Tryz.prog 21 #[ptrN X, .agg #[.int .u8 d, .int .u16 i, .int .u16 j, .int .u8 o, .int .u8 (b.toNat : Int), .slice A n c, .int .u64 v], .int .i64 (k : Int)] w fun e w' =>
      e = .returned (.bool true) ∧ ∃ l' ds', Wb fb w0 w' X cnt md l' l' ds' vl vw ∧ Docs w0 l' ds' ∧ l'.length = l.length := by
  have HFN := Lib.hid (And.intro hf hn)
  obtain ⟨Wa, hWa⟩ : ∃ Wa, w.alloc (.cells #[.int .u8 d, .int .u16 i, .int .u16 j, .int .u8 o, .int .u8 (b.toNat : Int), .slice A n c, .int .u64 v] 41) = Wa := ⟨_, rfl⟩
  have ba : Below w.heap.size w Wa := by rw [← hWa]; exact (Below.refl _ _).alloc (Nat.le_refl _) _
  have sa : Wa.heap.size = w.heap.size + 1 := by rw [← hWa]; simp
  have na : Blk Wa w.heap.size #[.int .u8 d, .int .u16 i, .int .u16 j, .int .u8 o, .int .u8 (b.toNat : Int), .slice A n c, .int .u64 v] := by rw [← hWa]; exact Blk.new w _ _
  have ha := h.on ba
  have hkl0 := (List.getElem?_eq_some_iff.1 hk).1
  obtain ⟨L, hL⟩ : ∃ L, ds[k]? = some L := ⟨_, List.getElem?_eq_getElem (by rw [hD.1]; exact hkl0)⟩
  have hd := hD.2 k _ L hk hL
  obtain ⟨t, cap, hv, c1⟩ := ha.ptr hk
  obtain ⟨t2, cap2, hv2, c2, hlen⟩ := ha.dn hL
  rw [hD.1] at hv2
  have hkl : (k : Int) < (l.length : Int) := by omega
  have HLn := Lib.hid hd.dn
  have HS1 := Lib.hid (fun (V : World) (q : Below Wa.heap.size Wa V) => show V.cell? ⟨X, 1, none⟩ = some (.slice (some ⟨t, 0, none⟩) l.length cap) ∧ V.cell? ⟨t, k, none⟩ = some (ptrN g) ∧ V.cell? ⟨X, 2, none⟩ = some (.slice (some ⟨t2, 0, none⟩) l.length cap2) ∧ V.rangeAt t2 (k * 261) L ∧ V.cell? ⟨w.heap.size, 3, none⟩ = some (.int .u8 o) from by
    have hV := ha.on q
    obtain ⟨t', cap', hv', c1'⟩ := hV.ptr hk
    obtain ⟨t2', cap2', hv2', c2', _⟩ := hV.dn hL
    rw [hv] at hv'
    rw [hD.1] at hv2'
    rw [hv2] at hv2'
    injection hv' with e1 e2 e3
    injection e1 with e1
    injection hv2' with f1 f2 f3
    injection f1 with f1
    injection e1 with e1
    injection f1 with f1
    subst e1 f1
    have d1 := hV.cL
    have d2 := hV.cW
    rw [hv] at d1
    rw [hv2] at d2
    exact ⟨d1, c1', d2, c2', (na.below q na.lt).cell 3⟩)
  obtain ⟨q, hq⟩ : ∃ q : Int, o % 4 = q := ⟨_, rfl⟩
  have hq4 : o.tmod 4 = o % 4 := Int.tmod_eq_emod_of_nonneg ho.1
  have hd99 : d.tmod 9 = d % 9 := Int.tmod_eq_emod_of_nonneg hd0
  have ewq : IntKind.u64.wrap q = q := by simp [IntKind.wrap, IntKind.bits, IntKind.signed]; omega
  have HZ := Lib.hid dn_zero
  generalize hzs : zeroN.toArray = zs at HZ
  have HTh := Lib.hid (show (Wa.drew.alloc (.cells zs 59)).there (w.heap.size + 1) 0 L.toArray.size from by
    rw [← hzs, ← sa]; exact Lst.there (l := zeroN) (Blk.new Wa.drew _ _) (by rw [zeroN_length, List.size_toArray, hlen]; exact Nat.le_refl _))
  obtain ⟨W1, hW1⟩ : ∃ W1, (Wa.drew.alloc (.cells zs 59)).setCells (w.heap.size + 1) 0 L.toArray.toList = W1 := ⟨_, rfl⟩
  have lW : Lst W1 (w.heap.size + 1) L := by rw [← hW1, ← hzs, ← sa]; exact dn_over (Blk.new Wa.drew _ _) zeroN_length HLn.out
  have bW : Below Wa.heap.size Wa W1 := by
    rw [← hW1]
    have q1 : Below Wa.heap.size Wa (Wa.drew.alloc (.cells zs 59)) := (Below.refl _ _).drew.alloc (Nat.le_refl _) _
    exact q1.trans ((Kept.setCells (· = w.heap.size + 1) _ _ _ _ rfl).below (B := Wa.heap.size) q1.size (fun i e => by omega))
  have HB1 := Lib.hid (show Below Wa.heap.size Wa ((Wa.drew.alloc (.cells zs 59)).setCells (w.heap.size + 1) 0 L.toArray.toList) from by rw [hW1]; exact bW)
  have SA := Lib.hid sa
  have HST := Lib.hid (Ws.start h (ba.trans (bW.mono ba.size)) (na.below bW na.lt) lW)
  have HWd := Lib.hid hW1
  have HHD := Lib.hid hD
  have HHd := Lib.hid hd
  have HV2 := Lib.hid hv2
  have HUp := Lib.hid (h.nd.up_ hk)
  have HHk := Lib.hid hk
  have HPB := Lib.hid hB
  have e0 : W1.cell? ⟨w.heap.size, 0, none⟩ = some (.int .u8 d) := HST.out.ls.cell 0
  have e2 : W1.cell? ⟨w.heap.size, 2, none⟩ = some (.int .u16 j) := HST.out.ls.cell 2
  have e4 : W1.cell? ⟨w.heap.size, 4, none⟩ = some (.int .u8 (b.toNat : Int)) := HST.out.ls.cell 4
  have e5 : W1.cell? ⟨w.heap.size, 5, none⟩ = some (.slice A n c) := HST.out.ls.cell 5
  have e6 : W1.cell? ⟨w.heap.size, 6, none⟩ = some (.int .u64 v) := HST.out.ls.cell 6
  clear hW1 hzs c1 c2 hlen hL hD hd ba ha na bW lW hv2 h hk hB hkl0
  have HV1 := Lib.hid hv
  clear hv
  go_enter Tryz.func21, Tryz.ntmps21
  go_wp2_with fail
  try rw [hWa]
  clear hWa
  refine wp_region_held_drew (S := (fun w' => w'.cell? ⟨X, 1, none⟩ = some (.slice (some ⟨t, 0, none⟩) l.length cap) ∧ w'.cell? ⟨t, k, none⟩ = some (ptrN g) ∧ w'.cell? ⟨X, 2, none⟩ = some (.slice (some ⟨t2, 0, none⟩) l.length cap2) ∧ w'.rangeAt t2 (k * 261) L ∧ w'.cell? ⟨w.heap.size, 3, none⟩ = some (.int .u8 o))) (by kernel_rfl) (HS1.out _ (Below.refl _ _).drew) (fun hHeld => ?_)
  refine wpAnyH_take (i := 0) (oi := { dst := some 14, op := Op.move (Operand.tmp 0), type := 25, pos := "law.go:51", after := #[], guard := none }) (v := ?v1) rfl (by kernel_rfl) (by kernel_rfl) (by kernel_rfl) (fun _ _ _ h => h) (Or.inl ⟨by rfl, ?hy1⟩) hHeld ?rest1
  case hy1 => (intro w' hSw; (try dsimp only at hSw); go_simp; (try with_reducible rfl))
  try simp only [Act.put, List.setIfInBounds_toArray, List.set_cons_zero, List.set_cons_succ]
  refine wpAnyH_take (i := 1) (oi := { dst := some 15, op := Op.nilCheck (Operand.tmp 14), type := 0, pos := "law.go:51", after := #[{ on := 0, ground := Ground.data }], guard := none }) (v := ?v2) rfl (by kernel_rfl) (by kernel_rfl) (by kernel_rfl) (fun _ _ _ h => h) (Or.inl ⟨by rfl, ?hy2⟩) hHeld ?rest2
  case hy2 => (intro w' hSw; (try dsimp only at hSw); go_simp; (try with_reducible rfl))
  try simp only [Act.put, List.setIfInBounds_toArray, List.set_cons_zero, List.set_cons_succ]
  refine wpAnyH_take (i := 2) (oi := { dst := some 16, op := Op.fieldAddr 36 (Operand.tmp 15) 1, type := 0, pos := "law.go:51", after := #[{ on := 1, ground := Ground.data }], guard := none }) (v := ?v3) rfl (by kernel_rfl) (by kernel_rfl) (by kernel_rfl) (fun _ _ _ h => h) (Or.inl ⟨by rfl, ?hy3⟩) hHeld ?rest3
  case hy3 => (intro w' hSw; (try dsimp only at hSw); go_simp; (try with_reducible rfl))
  try simp only [Act.put, List.setIfInBounds_toArray, List.set_cons_zero, List.set_cons_succ]
  refine wpAnyH_take (i := 3) (oi := { dst := some 17, op := Op.load 33 (Operand.tmp 16), type := 33, pos := "law.go:51", after := #[{ on := 2, ground := Ground.data }], guard := none }) (v := ?v4) rfl (by kernel_rfl) (by kernel_rfl) (by kernel_rfl) (fun _ _ _ h => h) (Or.inl ⟨by rfl, ?hy4⟩) hHeld ?rest4
  case hy4 => (intro w' hSw; (try dsimp only at hSw); go_simp; (try with_reducible rfl))
  try simp only [Act.put, List.setIfInBounds_toArray, List.set_cons_zero, List.set_cons_succ]
  refine wpAnyH_take (i := 4) (oi := { dst := some 18, op := Op.move (Operand.tmp 2), type := 3, pos := "law.go:51", after := #[], guard := none }) (v := ?v5) rfl (by kernel_rfl) (by kernel_rfl) (by kernel_rfl) (fun _ _ _ h => h) (Or.inl ⟨by rfl, ?hy5⟩) hHeld ?rest5
  case hy5 => (intro w' hSw; (try dsimp only at hSw); go_simp; (try with_reducible rfl))
  try simp only [Act.put, List.setIfInBounds_toArray, List.set_cons_zero, List.set_cons_succ]
  refine wpAnyH_take (i := 5) (oi := { dst := some 19, op := Op.indexAddr 33 (Operand.tmp 17) (Operand.tmp 18), type := 0, pos := "law.go:51", after := #[{ on := 3, ground := Ground.data }, { on := 4, ground := Ground.data }], guard := none }) (v := .pointer (some ⟨t, k, none⟩)) rfl (by kernel_rfl) (by kernel_rfl) (by kernel_rfl) (fun _ _ _ h => h) (Or.inl ⟨by rfl, ?hyV⟩) hHeld ?_
  case hyV => (intro w' hSw; (try dsimp only at hSw); go_simp; (try rw [if_pos ⟨by omega, hkl⟩]); (try simp only [Int.toNat_natCast, Nat.mul_one, Nat.zero_add]); (try rfl))
  try simp only [Act.put, List.setIfInBounds_toArray, List.set_cons_zero, List.set_cons_succ]
  refine wpAnyH_take (i := 6) (oi := { dst := some 20, op := Op.load 46 (Operand.tmp 19), type := 46, pos := "law.go:51", after := #[{ on := 5, ground := Ground.data }], guard := none }) (v := ?v6) rfl (by kernel_rfl) (by kernel_rfl) (by kernel_rfl) (fun _ _ _ h => h) (Or.inl ⟨by rfl, ?hy6⟩) hHeld ?rest6
  case hy6 => (intro w' hSw; (try dsimp only at hSw); go_simp; (try with_reducible rfl))
  try simp only [Act.put, List.setIfInBounds_toArray, List.set_cons_zero, List.set_cons_succ]
  refine wpAnyH_take (i := 7) (oi := { dst := some 21, op := Op.move (Operand.tmp 0), type := 25, pos := "law.go:51", after := #[{ on := 19, ground := Ground.gcOnly Departure.lateStores }], guard := none }) (v := ?v7) rfl (by kernel_rfl) (by kernel_rfl) (by kernel_rfl) (fun _ _ _ h => h) (Or.inl ⟨by rfl, ?hy7⟩) hHeld ?rest7
  case hy7 => (intro w' hSw; (try dsimp only at hSw); go_simp; (try with_reducible rfl))
  try simp only [Act.put, List.setIfInBounds_toArray, List.set_cons_zero, List.set_cons_succ]
  refine wpAnyH_take (i := 8) (oi := { dst := some 22, op := Op.nilCheck (Operand.tmp 21), type := 0, pos := "law.go:51", after := #[{ on := 7, ground := Ground.data }, { on := 19, ground := Ground.gcOnly Departure.lateStores }], guard := none }) (v := ?v8) rfl (by kernel_rfl) (by kernel_rfl) (by kernel_rfl) (fun _ _ _ h => h) (Or.inl ⟨by rfl, ?hy8⟩) hHeld ?rest8
  case hy8 => (intro w' hSw; (try dsimp only at hSw); go_simp; (try with_reducible rfl))
  try simp only [Act.put, List.setIfInBounds_toArray, List.set_cons_zero, List.set_cons_succ]
  refine wpAnyH_take (i := 9) (oi := { dst := some 23, op := Op.fieldAddr 36 (Operand.tmp 22) 2, type := 0, pos := "law.go:51", after := #[{ on := 8, ground := Ground.data }, { on := 19, ground := Ground.gcOnly Departure.lateStores }], guard := none }) (v := ?v9) rfl (by kernel_rfl) (by kernel_rfl) (by kernel_rfl) (fun _ _ _ h => h) (Or.inl ⟨by rfl, ?hy9⟩) hHeld ?rest9
  case hy9 => (intro w' hSw; (try dsimp only at hSw); go_simp; (try with_reducible rfl))
  try simp only [Act.put, List.setIfInBounds_toArray, List.set_cons_zero, List.set_cons_succ]
  refine wpAnyH_take (i := 10) (oi := { dst := some 24, op := Op.load 34 (Operand.tmp 23), type := 34, pos := "law.go:51", after := #[{ on := 9, ground := Ground.data }, { on := 19, ground := Ground.gcOnly Departure.lateStores }], guard := none }) (v := ?v10) rfl (by kernel_rfl) (by kernel_rfl) (by kernel_rfl) (fun _ _ _ h => h) (Or.inl ⟨by rfl, ?hy10⟩) hHeld ?rest10
  case hy10 => (intro w' hSw; (try dsimp only at hSw); go_simp; (try with_reducible rfl))
  try simp only [Act.put, List.setIfInBounds_toArray, List.set_cons_zero, List.set_cons_succ]
  refine wpAnyH_take (i := 11) (oi := { dst := some 25, op := Op.move (Operand.tmp 2), type := 3, pos := "law.go:51", after := #[{ on := 19, ground := Ground.gcOnly Departure.lateStores }], guard := none }) (v := ?v11) rfl (by kernel_rfl) (by kernel_rfl) (by kernel_rfl) (fun _ _ _ h => h) (Or.inl ⟨by rfl, ?hy11⟩) hHeld ?rest11
  case hy11 => (intro w' hSw; (try dsimp only at hSw); go_simp; (try with_reducible rfl))
  try simp only [Act.put, List.setIfInBounds_toArray, List.set_cons_zero, List.set_cons_succ]
  refine wpAnyH_take (i := 12) (oi := { dst := some 26, op := Op.indexAddr 34 (Operand.tmp 24) (Operand.tmp 25), type := 0, pos := "law.go:51", after := #[{ on := 10, ground := Ground.data }, { on := 11, ground := Ground.data }, { on := 19, ground := Ground.gcOnly Departure.lateStores }], guard := none }) (v := .pointer (some ⟨t2, k * 261, none⟩)) rfl (by kernel_rfl) (by kernel_rfl) (by kernel_rfl) (fun _ _ _ h => h) (Or.inl ⟨by rfl, ?hyV⟩) hHeld ?_
  case hyV => (intro w' hSw; (try dsimp only at hSw); go_simp; (try rw [if_pos ⟨by omega, hkl⟩]); (try simp only [Int.toNat_natCast, Nat.zero_add]); (try rfl))
  try simp only [Act.put, List.setIfInBounds_toArray, List.set_cons_zero, List.set_cons_succ]
  refine wpAnyH_take (i := 13) (oi := { dst := some 27, op := Op.load 59 (Operand.tmp 26), type := 59, pos := "law.go:51", after := #[{ on := 12, ground := Ground.data }, { on := 19, ground := Ground.gcOnly Departure.lateStores }], guard := none }) (v := .agg L.toArray) rfl (by kernel_rfl) (by kernel_rfl) (by kernel_rfl) (fun _ _ _ h => h) (yieldsIf_load_mid (by rfl) 59 (.tmp 26) rfl t2 (k * 261) (by rfl) L _ (fun _ h => h.2.2.2.1) Tryz.underlying59 rfl HLn.out.sz) hHeld ?_
  try simp only [Act.put, List.setIfInBounds_toArray, List.set_cons_zero, List.set_cons_succ]
  refine wpAnyH_take (i := 14) (oi := { dst := some 28, op := Op.fieldAddr 41 (Operand.tmp 4) 3, type := 0, pos := "law.go:51", after := #[{ on := 20, ground := Ground.gcOnly Departure.lateStores }], guard := none }) (v := ?v12) rfl (by kernel_rfl) (by kernel_rfl) (by kernel_rfl) (fun _ _ _ h => h) (Or.inl ⟨by rfl, ?hy12⟩) hHeld ?rest12
  case hy12 => (intro w' hSw; (try dsimp only at hSw); go_simp; (try with_reducible rfl))
  try simp only [Act.put, List.setIfInBounds_toArray, List.set_cons_zero, List.set_cons_succ]
  refine wpAnyH_take (i := 15) (oi := { dst := some 29, op := Op.load 5 (Operand.tmp 28), type := 5, pos := "law.go:51", after := #[{ on := 14, ground := Ground.data }, { on := 20, ground := Ground.gcOnly Departure.lateStores }], guard := none }) (v := ?v13) rfl (by kernel_rfl) (by kernel_rfl) (by kernel_rfl) (fun _ _ _ h => h) (Or.inl ⟨by rfl, ?hy13⟩) hHeld ?rest13
  case hy13 => (intro w' hSw; (try dsimp only at hSw); go_simp; (try with_reducible rfl))
  try simp only [Act.put, List.setIfInBounds_toArray, List.set_cons_zero, List.set_cons_succ]
  refine wpAnyH_take (i := 16) (oi := { dst := some 30, op := Op.binOp BinOp.rem 5 (Operand.tmp 29) (Operand.const (Value.int IntKind.u8 4)) 5, type := 5, pos := "law.go:51", after := #[{ on := 15, ground := Ground.data }, { on := 20, ground := Ground.gcOnly Departure.lateStores }], guard := none }) (v := .int .u8 q) rfl (by kernel_rfl) (by kernel_rfl) (by kernel_rfl) (fun _ _ _ h => h) (Or.inl ⟨by rfl, ?hyV⟩) hHeld ?_
  case hyV => (intro w' hSw; (try dsimp only at hSw); go_simp; (try rw [hq4]); (try rw [hq]); (try rfl))
  try simp only [Act.put, List.setIfInBounds_toArray, List.set_cons_zero, List.set_cons_succ]
  refine wpAnyH_take (i := 17) (oi := { dst := some 31, op := Op.convert 5 39 (Operand.tmp 30), type := 39, pos := "law.go:51", after := #[{ on := 16, ground := Ground.data }, { on := 20, ground := Ground.gcOnly Departure.lateStores }], guard := none }) (v := .int .u64 q) rfl (by kernel_rfl) (by kernel_rfl) (by kernel_rfl) (fun _ _ _ h => h) (Or.inl ⟨by rfl, ?hyV⟩) hHeld ?_
  case hyV => (intro w' hSw; (try dsimp only at hSw); go_simp; (try rw [ewq]); (try rfl))
  try simp only [Act.put, List.setIfInBounds_toArray, List.set_cons_zero, List.set_cons_succ]
  refine wpAnyH_ready (rs := [18]) (by kernel_rfl) (by simp) (AllReadyH.cons (o := { dst := some 8, op := Op.alloc 59, type := 0, pos := "law.go:51", after := #[], guard := none }) rfl (fun K hK => ?_) AllReadyH.nil)
  rw [if_pos (by rfl)]
  refine wp_alloc_z 59 rfl zs HZ.out ?_
  refine hK.out _ _ (HS1.out _ ((Below.refl _ _).drew.alloc (Nat.le_refl _) _)) (fun hHeld' => ?_)
  clear hK K hHeld
  have hHeld := hHeld'
  clear hHeld'
  try simp only [Act.put, List.setIfInBounds_toArray, List.set_cons_zero, List.set_cons_succ]
  refine wpAnyH_take (i := 19) (oi := { dst := some 7, op := Op.assign (Operand.tmp 20), type := 46, pos := "law.go:51", after := #[{ on := 6, ground := Ground.data }, { on := 0, ground := Ground.phase }, { on := 1, ground := Ground.phase }, { on := 2, ground := Ground.phase }, { on := 3, ground := Ground.phase }, { on := 4, ground := Ground.phase }, { on := 5, ground := Ground.phase }, { on := 6, ground := Ground.phase }, { on := 7, ground := Ground.textOnly Departure.lateStores }, { on := 8, ground := Ground.textOnly Departure.lateStores }, { on := 9, ground := Ground.textOnly Departure.lateStores }, { on := 10, ground := Ground.textOnly Departure.lateStores }, { on := 11, ground := Ground.textOnly Departure.lateStores }, { on := 12, ground := Ground.textOnly Departure.lateStores }, { on := 13, ground := Ground.textOnly Departure.lateStores }, { on := 14, ground := Ground.textOnly Departure.lateStores }, { on := 15, ground := Ground.textOnly Departure.lateStores }, { on := 16, ground := Ground.textOnly Departure.lateStores }, { on := 17, ground := Ground.textOnly Departure.lateStores }, { on := 18, ground := Ground.phase }], guard := none }) (v := ?v14) rfl (by kernel_rfl) (by kernel_rfl) (by kernel_rfl) (fun _ _ _ h => h) (Or.inl ⟨by rfl, ?hy14⟩) hHeld ?rest14
  case hy14 => (intro w' hSw; (try dsimp only at hSw); go_simp; (try with_reducible rfl))
  try simp only [Act.put, List.setIfInBounds_toArray, List.set_cons_zero, List.set_cons_succ]
  refine wpAnyH_ready (rs := [20]) (by kernel_rfl) (by simp) (AllReadyH.cons (o := { dst := none, op := Op.store 59 (Operand.tmp 8) (Operand.tmp 27), type := 0, pos := "law.go:51", after := #[{ on := 18, ground := Ground.data }, { on := 13, ground := Ground.data }, { on := 19, ground := Ground.chain }, { on := 0, ground := Ground.phase }, { on := 1, ground := Ground.phase }, { on := 2, ground := Ground.phase }, { on := 3, ground := Ground.phase }, { on := 4, ground := Ground.phase }, { on := 5, ground := Ground.phase }, { on := 6, ground := Ground.phase }, { on := 7, ground := Ground.phase }, { on := 8, ground := Ground.phase }, { on := 9, ground := Ground.phase }, { on := 10, ground := Ground.phase }, { on := 11, ground := Ground.phase }, { on := 12, ground := Ground.phase }, { on := 13, ground := Ground.phase }, { on := 14, ground := Ground.textOnly Departure.lateStores }, { on := 15, ground := Ground.textOnly Departure.lateStores }, { on := 16, ground := Ground.textOnly Departure.lateStores }, { on := 17, ground := Ground.textOnly Departure.lateStores }, { on := 18, ground := Ground.phase }, { on := 19, ground := Ground.phase }], guard := none }) rfl (fun K hK => ?_) AllReadyH.nil)
  rw [if_pos (by rfl)]
  refine wp_store_mid 59 (.tmp 8) (.tmp 27) rfl (w.heap.size + 1) 0 L.toArray (by rw [← SA.out]; rfl) (by rfl) HTh.out HLn.out.szA HLn.out.all1 ?_
  refine hK.out _ _ (HS1.out _ HB1.out) (fun hHeld' => ?_)
  clear hK K hHeld
  have hHeld := hHeld'
  clear hHeld'
  try simp only [Act.put, List.setIfInBounds_toArray, List.set_cons_zero, List.set_cons_succ]
  refine wpAnyH_take (i := 21) (oi := { dst := some 9, op := Op.assign (Operand.tmp 31), type := 39, pos := "law.go:51", after := #[{ on := 17, ground := Ground.data }, { on := 20, ground := Ground.chain }, { on := 0, ground := Ground.phase }, { on := 1, ground := Ground.phase }, { on := 2, ground := Ground.phase }, { on := 3, ground := Ground.phase }, { on := 4, ground := Ground.phase }, { on := 5, ground := Ground.phase }, { on := 6, ground := Ground.phase }, { on := 7, ground := Ground.phase }, { on := 8, ground := Ground.phase }, { on := 9, ground := Ground.phase }, { on := 10, ground := Ground.phase }, { on := 11, ground := Ground.phase }, { on := 12, ground := Ground.phase }, { on := 13, ground := Ground.phase }, { on := 14, ground := Ground.phase }, { on := 15, ground := Ground.phase }, { on := 16, ground := Ground.phase }, { on := 17, ground := Ground.phase }, { on := 18, ground := Ground.phase }, { on := 19, ground := Ground.phase }, { on := 20, ground := Ground.phase }], guard := none }) (v := ?v15) rfl (by kernel_rfl) (by kernel_rfl) (by kernel_rfl) (fun _ _ _ h => h) (Or.inl ⟨by rfl, ?hy15⟩) hHeld ?rest15
  case hy15 => (intro w' hSw; (try dsimp only at hSw); go_simp; (try with_reducible rfl))
  try simp only [Act.put, List.setIfInBounds_toArray, List.set_cons_zero, List.set_cons_succ]
  refine wpAnyH_done (by kernel_rfl) ?_ _
  go_upto_region 2 with fail
  first
    | rw [HWd.out]
    | rw [show (Wa.alloc (.cells zs 59)).drew.setCells (w.heap.size + 1) 0 L = W1 from HWd.out]
  clear HS1 HTh HB1 HWd HZ SA ewq
  go_upto_region 6 with fail
  try rw [hd99]
  try rw [hd9]
  clear hq4 hd99 hq
  obtain ⟨L', hd', hc'⟩ := doc_dropval HHd.out q
  have C1 := Lib.hid (HST.out.nn.dropval HHk.out HST.out.wb.below.size HST.out.hN q)
  have HC' := Lib.hid hc'
  have HD' := Lib.hid hd'
  have HLn2 := Lib.hid hd'.dn
  clear hc' hd'
  obtain ⟨er, her⟩ : ∃ er, dropVN x q = er := ⟨_, rfl⟩
  rw [her] at C1 HC'
  clear her
  go_wp2_with fail
  (with_reducible refine C1.out.mono ?_)
  rintro e w2 ⟨rfl, nn, kk⟩
  have S2 := Lib.hid (HST.out.node nn kk)
  have HR2 := Lib.hid (Lst.all S2.out.lg)
  clear nn kk C1 HST e0 e2 e4 e5 e6
  go_wp2_with (refine wpList_load_mid rfl 59 (.tmp 8) rfl (w.heap.size + 1) 0 rfl L _ HR2.out Tryz.underlying59 rfl HLn.out.sz ?_)
  (with_reducible refine (HC'.out _).mono ?_)
  rintro e w3 ⟨rfl, h3⟩
  obtain ⟨s4, th4⟩ := (S2.out.on h3).lay HLn.out.len HLn2.out
  obtain ⟨w4, hw4⟩ : ∃ w4, w3.setCells (w.heap.size + 1) 0 L'.toArray.toList = w4 := ⟨_, rfl⟩
  rw [hw4] at s4
  have HT3 := Lib.hid th4
  have HW4 := Lib.hid hw4
  have S4 := Lib.hid s4
  clear hw4 s4 th4 h3 S2 HR2 HC'
  have hwb : Wb fb w0 w4.drew X cnt md (l.set k (g, nDropVal x q)) l ds vl (.slice (some ⟨t2, 0, none⟩) ds.length cap2) := by have := S4.out.wb.on (Below.refl _ _).drew; rw [HV2.out] at this; rw [HHD.out.1]; exact this
  have hkd : k < ds.length := by rw [HHD.out.1]; omega
  obtain ⟨m1, m2⟩ := hwb.put hkd HLn2.out
  have HTh22 := Lib.hid (show w4.drew.there t2 (k * 261) L'.toArray.size from m2)
  have HS22 := Lib.hid (show w4.drew.cell? ⟨X, 2, none⟩ = some (.slice (some ⟨t2, 0, none⟩) l.length cap2) ∧ w4.drew.rangeAt (w.heap.size + 1) 0 L' from ⟨by have := hwb.cW; rw [HHD.out.1] at this; exact this, Lst.all (show Lst w4.drew _ _ from S4.out.lg)⟩)
  have hne2 : ¬ t2 = w.heap.size + 1 := fun e => S4.out.ne.1 (.inr (.inr (.inl (by rw [HV2.out]; rw [← e]; rfl))))
  have HS23 := Lib.hid (show (w4.drew.setCells t2 (k * 261) L'.toArray.toList).cell? ⟨X, 2, none⟩ = some (.slice (some ⟨t2, 0, none⟩) l.length cap2) ∧ (w4.drew.setCells t2 (k * 261) L'.toArray.toList).rangeAt (w.heap.size + 1) 0 L' from
    ⟨by have := m1.cW; rw [HHD.out.1] at this; exact this, Lst.all (show Lst (w4.drew.setCells t2 (k * 261) L'.toArray.toList) _ _ from (Kept.setCells (· = t2) w4.drew t2 (k * 261) L'.toArray.toList rfl).blk (show Lst w4.drew _ _ from S4.out.lg) (fun e => hne2 e.symm))⟩)
  have HE := Lib.hid (show ∃ l' ds', Wb fb w0 (w4.drew.setCells t2 (k * 261) L'.toArray.toList) X cnt md l' l' ds' vl vw ∧ Docs w0 l' ds' ∧ l'.length = l.length from by
    refine ⟨l.set k (g, nDropVal x q), ds.set k L', ?_, HHD.out.set_ HHk.out HD'.out, by simp⟩
    have z := m1.relist (x' := nDropVal x q) HHk.out
    rw [HHD.out.1, ← HV2.out] at z
    exact z)
  clear hwb m1 m2 hkd
  go_wp2_with (refine wpList_store_mid rfl 59 (.tmp 8) (.tmp 87) rfl (w.heap.size + 1) 0 L'.toArray rfl rfl HT3.out HLn2.out.szA HLn2.out.all1 ?_; rw [HW4.out])
  refine wp_region_held_drew (S := (fun w' => w'.cell? ⟨X, 2, none⟩ = some (.slice (some ⟨t2, 0, none⟩) l.length cap2) ∧ w'.rangeAt (w.heap.size + 1) 0 L')) (by kernel_rfl) HS22.out (fun hHeld => ?_)
  refine wpAnyH_take (i := 0) (oi := { dst := some 126, op := Op.move (Operand.tmp 0), type := 25, pos := "law.go:75", after := #[], guard := none }) (v := ?v16) rfl (by kernel_rfl) (by kernel_rfl) (by kernel_rfl) (fun _ _ _ h => h) (Or.inl ⟨by rfl, ?hy16⟩) hHeld ?rest16
  case hy16 => (intro w' hSw; (try dsimp only at hSw); go_simp; (try with_reducible rfl))
  try simp only [Act.put, List.setIfInBounds_toArray, List.set_cons_zero, List.set_cons_succ]
  refine wpAnyH_take (i := 1) (oi := { dst := some 127, op := Op.nilCheck (Operand.tmp 126), type := 0, pos := "law.go:75", after := #[{ on := 0, ground := Ground.data }], guard := none }) (v := ?v17) rfl (by kernel_rfl) (by kernel_rfl) (by kernel_rfl) (fun _ _ _ h => h) (Or.inl ⟨by rfl, ?hy17⟩) hHeld ?rest17
  case hy17 => (intro w' hSw; (try dsimp only at hSw); go_simp; (try with_reducible rfl))
  try simp only [Act.put, List.setIfInBounds_toArray, List.set_cons_zero, List.set_cons_succ]
  refine wpAnyH_take (i := 2) (oi := { dst := some 128, op := Op.fieldAddr 36 (Operand.tmp 127) 2, type := 0, pos := "law.go:75", after := #[{ on := 1, ground := Ground.data }], guard := none }) (v := ?v18) rfl (by kernel_rfl) (by kernel_rfl) (by kernel_rfl) (fun _ _ _ h => h) (Or.inl ⟨by rfl, ?hy18⟩) hHeld ?rest18
  case hy18 => (intro w' hSw; (try dsimp only at hSw); go_simp; (try with_reducible rfl))
  try simp only [Act.put, List.setIfInBounds_toArray, List.set_cons_zero, List.set_cons_succ]
  refine wpAnyH_take (i := 3) (oi := { dst := some 129, op := Op.load 34 (Operand.tmp 128), type := 34, pos := "law.go:75", after := #[{ on := 2, ground := Ground.data }], guard := none }) (v := ?v19) rfl (by kernel_rfl) (by kernel_rfl) (by kernel_rfl) (fun _ _ _ h => h) (Or.inl ⟨by rfl, ?hy19⟩) hHeld ?rest19
  case hy19 => (intro w' hSw; (try dsimp only at hSw); go_simp; (try with_reducible rfl))
  try simp only [Act.put, List.setIfInBounds_toArray, List.set_cons_zero, List.set_cons_succ]
  refine wpAnyH_take (i := 4) (oi := { dst := some 130, op := Op.move (Operand.tmp 2), type := 3, pos := "law.go:75", after := #[], guard := none }) (v := ?v20) rfl (by kernel_rfl) (by kernel_rfl) (by kernel_rfl) (fun _ _ _ h => h) (Or.inl ⟨by rfl, ?hy20⟩) hHeld ?rest20
  case hy20 => (intro w' hSw; (try dsimp only at hSw); go_simp; (try with_reducible rfl))
  try simp only [Act.put, List.setIfInBounds_toArray, List.set_cons_zero, List.set_cons_succ]
  refine wpAnyH_take (i := 5) (oi := { dst := some 131, op := Op.load 59 (Operand.tmp 8), type := 59, pos := "law.go:75", after := #[], guard := none }) (v := .agg L'.toArray) rfl (by kernel_rfl) (by kernel_rfl) (by kernel_rfl) (fun _ _ _ h => h) (yieldsIf_load_mid (by rfl) 59 (.tmp 8) rfl (w.heap.size + 1) 0 (by rfl) L' _ (fun _ h => h.2) Tryz.underlying59 rfl HLn2.out.sz) hHeld ?_
  try simp only [Act.put, List.setIfInBounds_toArray, List.set_cons_zero, List.set_cons_succ]
  refine wpAnyH_take (i := 6) (oi := { dst := some 132, op := Op.indexAddr 34 (Operand.tmp 129) (Operand.tmp 130), type := 0, pos := "law.go:75", after := #[{ on := 3, ground := Ground.data }, { on := 4, ground := Ground.data }, { on := 0, ground := Ground.phase }, { on := 1, ground := Ground.phase }, { on := 2, ground := Ground.phase }, { on := 3, ground := Ground.phase }, { on := 4, ground := Ground.phase }, { on := 5, ground := Ground.phase }], guard := none }) (v := .pointer (some ⟨t2, k * 261, none⟩)) rfl (by kernel_rfl) (by kernel_rfl) (by kernel_rfl) (fun _ _ _ h => h) (Or.inl ⟨by rfl, ?hyV⟩) hHeld ?_
  case hyV => (intro w' hSw; (try dsimp only at hSw); go_simp; (try rw [if_pos ⟨by omega, hkl⟩]); (try simp only [Int.toNat_natCast, Nat.zero_add]); (try rfl))
  try simp only [Act.put, List.setIfInBounds_toArray, List.set_cons_zero, List.set_cons_succ]
  refine wpAnyH_ready (rs := [7]) (by kernel_rfl) (by simp) (AllReadyH.cons (o := { dst := none, op := Op.store 59 (Operand.tmp 132) (Operand.tmp 131), type := 0, pos := "law.go:75", after := #[{ on := 6, ground := Ground.data }, { on := 5, ground := Ground.data }, { on := 0, ground := Ground.phase }, { on := 1, ground := Ground.phase }, { on := 2, ground := Ground.phase }, { on := 3, ground := Ground.phase }, { on := 4, ground := Ground.phase }, { on := 5, ground := Ground.phase }], guard := none }) rfl (fun K hK => ?_) AllReadyH.nil)
  rw [if_pos (by rfl)]
  refine wp_store_mid 59 (.tmp 132) (.tmp 131) rfl t2 (k * 261) L'.toArray (by rfl) (by rfl) HTh22.out HLn2.out.szA HLn2.out.all1 ?_
  refine hK.out _ _ HS23.out (fun hHeld' => ?_)
  clear hK K hHeld
  have hHeld := hHeld'
  clear hHeld'
  try simp only [Act.put, List.setIfInBounds_toArray, List.set_cons_zero, List.set_cons_succ]
  refine wpAnyH_done (by kernel_rfl) ?_ _
  go_wp2
  go_ret
  exact ⟨by simp, HE.out⟩

set_option linter.unusedSimpArgs false in
set_option maxRecDepth 100000 in
set_option maxHeartbeats 8000000 in
theorem wwrite_kid {fb : FB} {w0 w : World} {X : Nat} {cnt md : Int} {l : List (Nat × Nd)} {ds : List (List Value)} {vl vw : Value} (h : Wb fb w0 w X cnt md l l ds vl vw) (hD : Docs w0 l ds) {k g : Nat} {x : Nd} (hk : l[k]? = some (g, x)) (hf : l.length ≤ 1000)
    (d i j o v : Int) (b : UInt8) (A : Option Addr) (n c : Nat) (p : List UInt8) (hB : ∀ V, Below w0.heap.size w0 V → Byt V w0.heap.size A n p) (hn : n ≤ 140737488351232) (ho : 0 ≤ o ∧ o ≤ 255) (hd0 : 0 ≤ d) (dd : Int) (hd9 : d % 9 = dd) (n4 : ¬ dd = 4) (n5 : ¬ dd = 5) (n6 : ¬ dd = 6) (n7 : ¬ dd = 7) :
    Calls Tryz.prog 21 #[ptrN X, .agg #[.int .u8 d, .int .u16 i, .int .u16 j, .int .u8 o, .int .u8 (b.toNat : Int), .slice A n c, .int .u64 v], .int .i64 (k : Int)] w fun e w' =>
      e = .returned (.bool true) ∧ ∃ l' ds', Wb fb w0 w' X cnt md l' l' ds' vl vw ∧ Docs w0 l' ds' ∧ l'.length = l.length := by
  have HFN := Lib.hid (And.intro hf hn)
  obtain ⟨Wa, hWa⟩ : ∃ Wa, w.alloc (.cells #[.int .u8 d, .int .u16 i, .int .u16 j, .int .u8 o, .int .u8 (b.toNat : Int), .slice A n c, .int .u64 v] 41) = Wa := ⟨_, rfl⟩
  have ba : Below w.heap.size w Wa := by rw [← hWa]; exact (Below.refl _ _).alloc (Nat.le_refl _) _
  have sa : Wa.heap.size = w.heap.size + 1 := by rw [← hWa]; simp
  have na : Blk Wa w.heap.size #[.int .u8 d, .int .u16 i, .int .u16 j, .int .u8 o, .int .u8 (b.toNat : Int), .slice A n c, .int .u64 v] := by rw [← hWa]; exact Blk.new w _ _
  have ha := h.on ba
  have hkl0 := (List.getElem?_eq_some_iff.1 hk).1
  obtain ⟨L, hL⟩ : ∃ L, ds[k]? = some L := ⟨_, List.getElem?_eq_getElem (by rw [hD.1]; exact hkl0)⟩
  have hd := hD.2 k _ L hk hL
  obtain ⟨t, cap, hv, c1⟩ := ha.ptr hk
  obtain ⟨t2, cap2, hv2, c2, hlen⟩ := ha.dn hL
  rw [hD.1] at hv2
  have hkl : (k : Int) < (l.length : Int) := by omega
  have HLn := Lib.hid hd.dn
  have HS1 := Lib.hid (fun (V : World) (q : Below Wa.heap.size Wa V) => show V.cell? ⟨X, 1, none⟩ = some (.slice (some ⟨t, 0, none⟩) l.length cap) ∧ V.cell? ⟨t, k, none⟩ = some (ptrN g) ∧ V.cell? ⟨X, 2, none⟩ = some (.slice (some ⟨t2, 0, none⟩) l.length cap2) ∧ V.rangeAt t2 (k * 261) L ∧ V.cell? ⟨w.heap.size, 3, none⟩ = some (.int .u8 o) from by
    have hV := ha.on q
    obtain ⟨t', cap', hv', c1'⟩ := hV.ptr hk
    obtain ⟨t2', cap2', hv2', c2', _⟩ := hV.dn hL
    rw [hv] at hv'
    rw [hD.1] at hv2'
    rw [hv2] at hv2'
    injection hv' with e1 e2 e3
    injection e1 with e1
    injection hv2' with f1 f2 f3
    injection f1 with f1
    injection e1 with e1
    injection f1 with f1
    subst e1 f1
    have d1 := hV.cL
    have d2 := hV.cW
    rw [hv] at d1
    rw [hv2] at d2
    exact ⟨d1, c1', d2, c2', (na.below q na.lt).cell 3⟩)
  obtain ⟨q, hq⟩ : ∃ q : Int, o % 4 = q := ⟨_, rfl⟩
  have hq4 : o.tmod 4 = o % 4 := Int.tmod_eq_emod_of_nonneg ho.1
  have hd99 : d.tmod 9 = d % 9 := Int.tmod_eq_emod_of_nonneg hd0
  have ewq : IntKind.u64.wrap q = q := by simp [IntKind.wrap, IntKind.bits, IntKind.signed]; omega
  have HZ := Lib.hid dn_zero
  generalize hzs : zeroN.toArray = zs at HZ
  have HTh := Lib.hid (show (Wa.drew.alloc (.cells zs 59)).there (w.heap.size + 1) 0 L.toArray.size from by
    rw [← hzs, ← sa]; exact Lst.there (l := zeroN) (Blk.new Wa.drew _ _) (by rw [zeroN_length, List.size_toArray, hlen]; exact Nat.le_refl _))
  obtain ⟨W1, hW1⟩ : ∃ W1, (Wa.drew.alloc (.cells zs 59)).setCells (w.heap.size + 1) 0 L.toArray.toList = W1 := ⟨_, rfl⟩
  have lW : Lst W1 (w.heap.size + 1) L := by rw [← hW1, ← hzs, ← sa]; exact dn_over (Blk.new Wa.drew _ _) zeroN_length HLn.out
  have bW : Below Wa.heap.size Wa W1 := by
    rw [← hW1]
    have q1 : Below Wa.heap.size Wa (Wa.drew.alloc (.cells zs 59)) := (Below.refl _ _).drew.alloc (Nat.le_refl _) _
    exact q1.trans ((Kept.setCells (· = w.heap.size + 1) _ _ _ _ rfl).below (B := Wa.heap.size) q1.size (fun i e => by omega))
  have HB1 := Lib.hid (show Below Wa.heap.size Wa ((Wa.drew.alloc (.cells zs 59)).setCells (w.heap.size + 1) 0 L.toArray.toList) from by rw [hW1]; exact bW)
  have SA := Lib.hid sa
  have HST := Lib.hid (Ws.start h (ba.trans (bW.mono ba.size)) (na.below bW na.lt) lW)
  have HWd := Lib.hid hW1
  have HHD := Lib.hid hD
  have HHd := Lib.hid hd
  have HV2 := Lib.hid hv2
  have HUp := Lib.hid (h.nd.up_ hk)
  have HHk := Lib.hid hk
  have HPB := Lib.hid hB
  have e0 : W1.cell? ⟨w.heap.size, 0, none⟩ = some (.int .u8 d) := HST.out.ls.cell 0
  have e2 : W1.cell? ⟨w.heap.size, 2, none⟩ = some (.int .u16 j) := HST.out.ls.cell 2
  have e4 : W1.cell? ⟨w.heap.size, 4, none⟩ = some (.int .u8 (b.toNat : Int)) := HST.out.ls.cell 4
  have e5 : W1.cell? ⟨w.heap.size, 5, none⟩ = some (.slice A n c) := HST.out.ls.cell 5
  have e6 : W1.cell? ⟨w.heap.size, 6, none⟩ = some (.int .u64 v) := HST.out.ls.cell 6
  clear hW1 hzs c1 c2 hlen hL hD hd ba ha na bW lW hv2 h hk hB hkl0
  have HV1 := Lib.hid hv
  clear hv
  go_enter Tryz.func21, Tryz.ntmps21
  go_wp2_with fail
  try rw [hWa]
  clear hWa
  refine wp_region_held_drew (S := (fun w' => w'.cell? ⟨X, 1, none⟩ = some (.slice (some ⟨t, 0, none⟩) l.length cap) ∧ w'.cell? ⟨t, k, none⟩ = some (ptrN g) ∧ w'.cell? ⟨X, 2, none⟩ = some (.slice (some ⟨t2, 0, none⟩) l.length cap2) ∧ w'.rangeAt t2 (k * 261) L ∧ w'.cell? ⟨w.heap.size, 3, none⟩ = some (.int .u8 o))) (by kernel_rfl) (HS1.out _ (Below.refl _ _).drew) (fun hHeld => ?_)
  refine wpAnyH_take (i := 0) (oi := { dst := some 14, op := Op.move (Operand.tmp 0), type := 25, pos := "law.go:51", after := #[], guard := none }) (v := ?v1) rfl (by kernel_rfl) (by kernel_rfl) (by kernel_rfl) (fun _ _ _ h => h) (Or.inl ⟨by rfl, ?hy1⟩) hHeld ?rest1
  case hy1 => (intro w' hSw; (try dsimp only at hSw); go_simp; (try with_reducible rfl))
  try simp only [Act.put, List.setIfInBounds_toArray, List.set_cons_zero, List.set_cons_succ]
  refine wpAnyH_take (i := 1) (oi := { dst := some 15, op := Op.nilCheck (Operand.tmp 14), type := 0, pos := "law.go:51", after := #[{ on := 0, ground := Ground.data }], guard := none }) (v := ?v2) rfl (by kernel_rfl) (by kernel_rfl) (by kernel_rfl) (fun _ _ _ h => h) (Or.inl ⟨by rfl, ?hy2⟩) hHeld ?rest2
  case hy2 => (intro w' hSw; (try dsimp only at hSw); go_simp; (try with_reducible rfl))
  try simp only [Act.put, List.setIfInBounds_toArray, List.set_cons_zero, List.set_cons_succ]
  refine wpAnyH_take (i := 2) (oi := { dst := some 16, op := Op.fieldAddr 36 (Operand.tmp 15) 1, type := 0, pos := "law.go:51", after := #[{ on := 1, ground := Ground.data }], guard := none }) (v := ?v3) rfl (by kernel_rfl) (by kernel_rfl) (by kernel_rfl) (fun _ _ _ h => h) (Or.inl ⟨by rfl, ?hy3⟩) hHeld ?rest3
  case hy3 => (intro w' hSw; (try dsimp only at hSw); go_simp; (try with_reducible rfl))
  try simp only [Act.put, List.setIfInBounds_toArray, List.set_cons_zero, List.set_cons_succ]
  refine wpAnyH_take (i := 3) (oi := { dst := some 17, op := Op.load 33 (Operand.tmp 16), type := 33, pos := "law.go:51", after := #[{ on := 2, ground := Ground.data }], guard := none }) (v := ?v4) rfl (by kernel_rfl) (by kernel_rfl) (by kernel_rfl) (fun _ _ _ h => h) (Or.inl ⟨by rfl, ?hy4⟩) hHeld ?rest4
  case hy4 => (intro w' hSw; (try dsimp only at hSw); go_simp; (try with_reducible rfl))
  try simp only [Act.put, List.setIfInBounds_toArray, List.set_cons_zero, List.set_cons_succ]
  refine wpAnyH_take (i := 4) (oi := { dst := some 18, op := Op.move (Operand.tmp 2), type := 3, pos := "law.go:51", after := #[], guard := none }) (v := ?v5) rfl (by kernel_rfl) (by kernel_rfl) (by kernel_rfl) (fun _ _ _ h => h) (Or.inl ⟨by rfl, ?hy5⟩) hHeld ?rest5
  case hy5 => (intro w' hSw; (try dsimp only at hSw); go_simp; (try with_reducible rfl))
  try simp only [Act.put, List.setIfInBounds_toArray, List.set_cons_zero, List.set_cons_succ]
  refine wpAnyH_take (i := 5) (oi := { dst := some 19, op := Op.indexAddr 33 (Operand.tmp 17) (Operand.tmp 18), type := 0, pos := "law.go:51", after := #[{ on := 3, ground := Ground.data }, { on := 4, ground := Ground.data }], guard := none }) (v := .pointer (some ⟨t, k, none⟩)) rfl (by kernel_rfl) (by kernel_rfl) (by kernel_rfl) (fun _ _ _ h => h) (Or.inl ⟨by rfl, ?hyV⟩) hHeld ?_
  case hyV => (intro w' hSw; (try dsimp only at hSw); go_simp; (try rw [if_pos ⟨by omega, hkl⟩]); (try simp only [Int.toNat_natCast, Nat.mul_one, Nat.zero_add]); (try rfl))
  try simp only [Act.put, List.setIfInBounds_toArray, List.set_cons_zero, List.set_cons_succ]
  refine wpAnyH_take (i := 6) (oi := { dst := some 20, op := Op.load 46 (Operand.tmp 19), type := 46, pos := "law.go:51", after := #[{ on := 5, ground := Ground.data }], guard := none }) (v := ?v6) rfl (by kernel_rfl) (by kernel_rfl) (by kernel_rfl) (fun _ _ _ h => h) (Or.inl ⟨by rfl, ?hy6⟩) hHeld ?rest6
  case hy6 => (intro w' hSw; (try dsimp only at hSw); go_simp; (try with_reducible rfl))
  try simp only [Act.put, List.setIfInBounds_toArray, List.set_cons_zero, List.set_cons_succ]
  refine wpAnyH_take (i := 7) (oi := { dst := some 21, op := Op.move (Operand.tmp 0), type := 25, pos := "law.go:51", after := #[{ on := 19, ground := Ground.gcOnly Departure.lateStores }], guard := none }) (v := ?v7) rfl (by kernel_rfl) (by kernel_rfl) (by kernel_rfl) (fun _ _ _ h => h) (Or.inl ⟨by rfl, ?hy7⟩) hHeld ?rest7
  case hy7 => (intro w' hSw; (try dsimp only at hSw); go_simp; (try with_reducible rfl))
  try simp only [Act.put, List.setIfInBounds_toArray, List.set_cons_zero, List.set_cons_succ]
  refine wpAnyH_take (i := 8) (oi := { dst := some 22, op := Op.nilCheck (Operand.tmp 21), type := 0, pos := "law.go:51", after := #[{ on := 7, ground := Ground.data }, { on := 19, ground := Ground.gcOnly Departure.lateStores }], guard := none }) (v := ?v8) rfl (by kernel_rfl) (by kernel_rfl) (by kernel_rfl) (fun _ _ _ h => h) (Or.inl ⟨by rfl, ?hy8⟩) hHeld ?rest8
  case hy8 => (intro w' hSw; (try dsimp only at hSw); go_simp; (try with_reducible rfl))
  try simp only [Act.put, List.setIfInBounds_toArray, List.set_cons_zero, List.set_cons_succ]
  refine wpAnyH_take (i := 9) (oi := { dst := some 23, op := Op.fieldAddr 36 (Operand.tmp 22) 2, type := 0, pos := "law.go:51", after := #[{ on := 8, ground := Ground.data }, { on := 19, ground := Ground.gcOnly Departure.lateStores }], guard := none }) (v := ?v9) rfl (by kernel_rfl) (by kernel_rfl) (by kernel_rfl) (fun _ _ _ h => h) (Or.inl ⟨by rfl, ?hy9⟩) hHeld ?rest9
  case hy9 => (intro w' hSw; (try dsimp only at hSw); go_simp; (try with_reducible rfl))
  try simp only [Act.put, List.setIfInBounds_toArray, List.set_cons_zero, List.set_cons_succ]
  refine wpAnyH_take (i := 10) (oi := { dst := some 24, op := Op.load 34 (Operand.tmp 23), type := 34, pos := "law.go:51", after := #[{ on := 9, ground := Ground.data }, { on := 19, ground := Ground.gcOnly Departure.lateStores }], guard := none }) (v := ?v10) rfl (by kernel_rfl) (by kernel_rfl) (by kernel_rfl) (fun _ _ _ h => h) (Or.inl ⟨by rfl, ?hy10⟩) hHeld ?rest10
  case hy10 => (intro w' hSw; (try dsimp only at hSw); go_simp; (try with_reducible rfl))
  try simp only [Act.put, List.setIfInBounds_toArray, List.set_cons_zero, List.set_cons_succ]
  refine wpAnyH_take (i := 11) (oi := { dst := some 25, op := Op.move (Operand.tmp 2), type := 3, pos := "law.go:51", after := #[{ on := 19, ground := Ground.gcOnly Departure.lateStores }], guard := none }) (v := ?v11) rfl (by kernel_rfl) (by kernel_rfl) (by kernel_rfl) (fun _ _ _ h => h) (Or.inl ⟨by rfl, ?hy11⟩) hHeld ?rest11
  case hy11 => (intro w' hSw; (try dsimp only at hSw); go_simp; (try with_reducible rfl))
  try simp only [Act.put, List.setIfInBounds_toArray, List.set_cons_zero, List.set_cons_succ]
  refine wpAnyH_take (i := 12) (oi := { dst := some 26, op := Op.indexAddr 34 (Operand.tmp 24) (Operand.tmp 25), type := 0, pos := "law.go:51", after := #[{ on := 10, ground := Ground.data }, { on := 11, ground := Ground.data }, { on := 19, ground := Ground.gcOnly Departure.lateStores }], guard := none }) (v := .pointer (some ⟨t2, k * 261, none⟩)) rfl (by kernel_rfl) (by kernel_rfl) (by kernel_rfl) (fun _ _ _ h => h) (Or.inl ⟨by rfl, ?hyV⟩) hHeld ?_
  case hyV => (intro w' hSw; (try dsimp only at hSw); go_simp; (try rw [if_pos ⟨by omega, hkl⟩]); (try simp only [Int.toNat_natCast, Nat.zero_add]); (try rfl))
  try simp only [Act.put, List.setIfInBounds_toArray, List.set_cons_zero, List.set_cons_succ]
  refine wpAnyH_take (i := 13) (oi := { dst := some 27, op := Op.load 59 (Operand.tmp 26), type := 59, pos := "law.go:51", after := #[{ on := 12, ground := Ground.data }, { on := 19, ground := Ground.gcOnly Departure.lateStores }], guard := none }) (v := .agg L.toArray) rfl (by kernel_rfl) (by kernel_rfl) (by kernel_rfl) (fun _ _ _ h => h) (yieldsIf_load_mid (by rfl) 59 (.tmp 26) rfl t2 (k * 261) (by rfl) L _ (fun _ h => h.2.2.2.1) Tryz.underlying59 rfl HLn.out.sz) hHeld ?_
  try simp only [Act.put, List.setIfInBounds_toArray, List.set_cons_zero, List.set_cons_succ]
  refine wpAnyH_take (i := 14) (oi := { dst := some 28, op := Op.fieldAddr 41 (Operand.tmp 4) 3, type := 0, pos := "law.go:51", after := #[{ on := 20, ground := Ground.gcOnly Departure.lateStores }], guard := none }) (v := ?v12) rfl (by kernel_rfl) (by kernel_rfl) (by kernel_rfl) (fun _ _ _ h => h) (Or.inl ⟨by rfl, ?hy12⟩) hHeld ?rest12
  case hy12 => (intro w' hSw; (try dsimp only at hSw); go_simp; (try with_reducible rfl))
  try simp only [Act.put, List.setIfInBounds_toArray, List.set_cons_zero, List.set_cons_succ]
  refine wpAnyH_take (i := 15) (oi := { dst := some 29, op := Op.load 5 (Operand.tmp 28), type := 5, pos := "law.go:51", after := #[{ on := 14, ground := Ground.data }, { on := 20, ground := Ground.gcOnly Departure.lateStores }], guard := none }) (v := ?v13) rfl (by kernel_rfl) (by kernel_rfl) (by kernel_rfl) (fun _ _ _ h => h) (Or.inl ⟨by rfl, ?hy13⟩) hHeld ?rest13
  case hy13 => (intro w' hSw; (try dsimp only at hSw); go_simp; (try with_reducible rfl))
  try simp only [Act.put, List.setIfInBounds_toArray, List.set_cons_zero, List.set_cons_succ]
  refine wpAnyH_take (i := 16) (oi := { dst := some 30, op := Op.binOp BinOp.rem 5 (Operand.tmp 29) (Operand.const (Value.int IntKind.u8 4)) 5, type := 5, pos := "law.go:51", after := #[{ on := 15, ground := Ground.data }, { on := 20, ground := Ground.gcOnly Departure.lateStores }], guard := none }) (v := .int .u8 q) rfl (by kernel_rfl) (by kernel_rfl) (by kernel_rfl) (fun _ _ _ h => h) (Or.inl ⟨by rfl, ?hyV⟩) hHeld ?_
  case hyV => (intro w' hSw; (try dsimp only at hSw); go_simp; (try rw [hq4]); (try rw [hq]); (try rfl))
  try simp only [Act.put, List.setIfInBounds_toArray, List.set_cons_zero, List.set_cons_succ]
  refine wpAnyH_take (i := 17) (oi := { dst := some 31, op := Op.convert 5 39 (Operand.tmp 30), type := 39, pos := "law.go:51", after := #[{ on := 16, ground := Ground.data }, { on := 20, ground := Ground.gcOnly Departure.lateStores }], guard := none }) (v := .int .u64 q) rfl (by kernel_rfl) (by kernel_rfl) (by kernel_rfl) (fun _ _ _ h => h) (Or.inl ⟨by rfl, ?hyV⟩) hHeld ?_
  case hyV => (intro w' hSw; (try dsimp only at hSw); go_simp; (try rw [ewq]); (try rfl))
  try simp only [Act.put, List.setIfInBounds_toArray, List.set_cons_zero, List.set_cons_succ]
  refine wpAnyH_ready (rs := [18]) (by kernel_rfl) (by simp) (AllReadyH.cons (o := { dst := some 8, op := Op.alloc 59, type := 0, pos := "law.go:51", after := #[], guard := none }) rfl (fun K hK => ?_) AllReadyH.nil)
  rw [if_pos (by rfl)]
  refine wp_alloc_z 59 rfl zs HZ.out ?_
  refine hK.out _ _ (HS1.out _ ((Below.refl _ _).drew.alloc (Nat.le_refl _) _)) (fun hHeld' => ?_)
  clear hK K hHeld
  have hHeld := hHeld'
  clear hHeld'
  try simp only [Act.put, List.setIfInBounds_toArray, List.set_cons_zero, List.set_cons_succ]
  refine wpAnyH_take (i := 19) (oi := { dst := some 7, op := Op.assign (Operand.tmp 20), type := 46, pos := "law.go:51", after := #[{ on := 6, ground := Ground.data }, { on := 0, ground := Ground.phase }, { on := 1, ground := Ground.phase }, { on := 2, ground := Ground.phase }, { on := 3, ground := Ground.phase }, { on := 4, ground := Ground.phase }, { on := 5, ground := Ground.phase }, { on := 6, ground := Ground.phase }, { on := 7, ground := Ground.textOnly Departure.lateStores }, { on := 8, ground := Ground.textOnly Departure.lateStores }, { on := 9, ground := Ground.textOnly Departure.lateStores }, { on := 10, ground := Ground.textOnly Departure.lateStores }, { on := 11, ground := Ground.textOnly Departure.lateStores }, { on := 12, ground := Ground.textOnly Departure.lateStores }, { on := 13, ground := Ground.textOnly Departure.lateStores }, { on := 14, ground := Ground.textOnly Departure.lateStores }, { on := 15, ground := Ground.textOnly Departure.lateStores }, { on := 16, ground := Ground.textOnly Departure.lateStores }, { on := 17, ground := Ground.textOnly Departure.lateStores }, { on := 18, ground := Ground.phase }], guard := none }) (v := ?v14) rfl (by kernel_rfl) (by kernel_rfl) (by kernel_rfl) (fun _ _ _ h => h) (Or.inl ⟨by rfl, ?hy14⟩) hHeld ?rest14
  case hy14 => (intro w' hSw; (try dsimp only at hSw); go_simp; (try with_reducible rfl))
  try simp only [Act.put, List.setIfInBounds_toArray, List.set_cons_zero, List.set_cons_succ]
  refine wpAnyH_ready (rs := [20]) (by kernel_rfl) (by simp) (AllReadyH.cons (o := { dst := none, op := Op.store 59 (Operand.tmp 8) (Operand.tmp 27), type := 0, pos := "law.go:51", after := #[{ on := 18, ground := Ground.data }, { on := 13, ground := Ground.data }, { on := 19, ground := Ground.chain }, { on := 0, ground := Ground.phase }, { on := 1, ground := Ground.phase }, { on := 2, ground := Ground.phase }, { on := 3, ground := Ground.phase }, { on := 4, ground := Ground.phase }, { on := 5, ground := Ground.phase }, { on := 6, ground := Ground.phase }, { on := 7, ground := Ground.phase }, { on := 8, ground := Ground.phase }, { on := 9, ground := Ground.phase }, { on := 10, ground := Ground.phase }, { on := 11, ground := Ground.phase }, { on := 12, ground := Ground.phase }, { on := 13, ground := Ground.phase }, { on := 14, ground := Ground.textOnly Departure.lateStores }, { on := 15, ground := Ground.textOnly Departure.lateStores }, { on := 16, ground := Ground.textOnly Departure.lateStores }, { on := 17, ground := Ground.textOnly Departure.lateStores }, { on := 18, ground := Ground.phase }, { on := 19, ground := Ground.phase }], guard := none }) rfl (fun K hK => ?_) AllReadyH.nil)
  rw [if_pos (by rfl)]
  refine wp_store_mid 59 (.tmp 8) (.tmp 27) rfl (w.heap.size + 1) 0 L.toArray (by rw [← SA.out]; rfl) (by rfl) HTh.out HLn.out.szA HLn.out.all1 ?_
  refine hK.out _ _ (HS1.out _ HB1.out) (fun hHeld' => ?_)
  clear hK K hHeld
  have hHeld := hHeld'
  clear hHeld'
  try simp only [Act.put, List.setIfInBounds_toArray, List.set_cons_zero, List.set_cons_succ]
  refine wpAnyH_take (i := 21) (oi := { dst := some 9, op := Op.assign (Operand.tmp 31), type := 39, pos := "law.go:51", after := #[{ on := 17, ground := Ground.data }, { on := 20, ground := Ground.chain }, { on := 0, ground := Ground.phase }, { on := 1, ground := Ground.phase }, { on := 2, ground := Ground.phase }, { on := 3, ground := Ground.phase }, { on := 4, ground := Ground.phase }, { on := 5, ground := Ground.phase }, { on := 6, ground := Ground.phase }, { on := 7, ground := Ground.phase }, { on := 8, ground := Ground.phase }, { on := 9, ground := Ground.phase }, { on := 10, ground := Ground.phase }, { on := 11, ground := Ground.phase }, { on := 12, ground := Ground.phase }, { on := 13, ground := Ground.phase }, { on := 14, ground := Ground.phase }, { on := 15, ground := Ground.phase }, { on := 16, ground := Ground.phase }, { on := 17, ground := Ground.phase }, { on := 18, ground := Ground.phase }, { on := 19, ground := Ground.phase }, { on := 20, ground := Ground.phase }], guard := none }) (v := ?v15) rfl (by kernel_rfl) (by kernel_rfl) (by kernel_rfl) (fun _ _ _ h => h) (Or.inl ⟨by rfl, ?hy15⟩) hHeld ?rest15
  case hy15 => (intro w' hSw; (try dsimp only at hSw); go_simp; (try with_reducible rfl))
  try simp only [Act.put, List.setIfInBounds_toArray, List.set_cons_zero, List.set_cons_succ]
  refine wpAnyH_done (by kernel_rfl) ?_ _
  go_upto_region 2 with fail
  first
    | rw [HWd.out]
    | rw [show (Wa.alloc (.cells zs 59)).drew.setCells (w.heap.size + 1) 0 L = W1 from HWd.out]
  clear HS1 HTh HB1 HWd HZ SA ewq
  go_upto_region 6 with fail
  try rw [hd99]
  try rw [hd9]
  clear hq4 hd99 hq
  have g4 : (dd == 4) = false := by simpa using n4
  have g5 : (dd == 5) = false := by simpa using n5
  have g6 : (dd == 6) = false := by simpa using n6
  have g7 : (dd == 7) = false := by simpa using n7
  obtain ⟨L', hd', hc'⟩ := doc_dropkid HHd.out HUp.out q b
  have C1 := Lib.hid (HST.out.nn.dropkid HHk.out HST.out.wb.below.size HST.out.hN q b _ rfl)
  have HC' := Lib.hid hc'
  have HD' := Lib.hid hd'
  have HLn2 := Lib.hid hd'.dn
  clear hc' hd'
  obtain ⟨er, her⟩ : ∃ er, dropKN x q b = er := ⟨_, rfl⟩
  rw [her] at C1 HC'
  clear her
  go_wp2_with fail
  (with_reducible refine C1.out.mono ?_)
  rintro e w2 ⟨rfl, nn, kk⟩
  have S2 := Lib.hid (HST.out.node nn kk)
  have HR2 := Lib.hid (Lst.all S2.out.lg)
  have f4 : w2.cell? ⟨w.heap.size, 4, none⟩ = some (.int .u8 (b.toNat : Int)) := S2.out.ls.cell 4
  clear nn kk C1 HST e0 e2 e4 e5 e6
  go_wp2_with (refine wpList_load_mid rfl 59 (.tmp 8) rfl (w.heap.size + 1) 0 rfl L _ HR2.out Tryz.underlying59 rfl HLn.out.sz ?_)
  (with_reducible refine (HC'.out _).mono ?_)
  rintro e w3 ⟨rfl, h3⟩
  obtain ⟨s4, th4⟩ := (S2.out.on h3).lay HLn.out.len HLn2.out
  obtain ⟨w4, hw4⟩ : ∃ w4, w3.setCells (w.heap.size + 1) 0 L'.toArray.toList = w4 := ⟨_, rfl⟩
  rw [hw4] at s4
  have HT3 := Lib.hid th4
  have HW4 := Lib.hid hw4
  have S4 := Lib.hid s4
  clear hw4 s4 th4 h3 S2 HR2 HC'
  have hwb : Wb fb w0 w4.drew X cnt md (l.set k (g, nDropKid x q b)) l ds vl (.slice (some ⟨t2, 0, none⟩) ds.length cap2) := by have := S4.out.wb.on (Below.refl _ _).drew; rw [HV2.out] at this; rw [HHD.out.1]; exact this
  have hkd : k < ds.length := by rw [HHD.out.1]; omega
  obtain ⟨m1, m2⟩ := hwb.put hkd HLn2.out
  have HTh22 := Lib.hid (show w4.drew.there t2 (k * 261) L'.toArray.size from m2)
  have HS22 := Lib.hid (show w4.drew.cell? ⟨X, 2, none⟩ = some (.slice (some ⟨t2, 0, none⟩) l.length cap2) ∧ w4.drew.rangeAt (w.heap.size + 1) 0 L' from ⟨by have := hwb.cW; rw [HHD.out.1] at this; exact this, Lst.all (show Lst w4.drew _ _ from S4.out.lg)⟩)
  have hne2 : ¬ t2 = w.heap.size + 1 := fun e => S4.out.ne.1 (.inr (.inr (.inl (by rw [HV2.out]; rw [← e]; rfl))))
  have HS23 := Lib.hid (show (w4.drew.setCells t2 (k * 261) L'.toArray.toList).cell? ⟨X, 2, none⟩ = some (.slice (some ⟨t2, 0, none⟩) l.length cap2) ∧ (w4.drew.setCells t2 (k * 261) L'.toArray.toList).rangeAt (w.heap.size + 1) 0 L' from
    ⟨by have := m1.cW; rw [HHD.out.1] at this; exact this, Lst.all (show Lst (w4.drew.setCells t2 (k * 261) L'.toArray.toList) _ _ from (Kept.setCells (· = t2) w4.drew t2 (k * 261) L'.toArray.toList rfl).blk (show Lst w4.drew _ _ from S4.out.lg) (fun e => hne2 e.symm))⟩)
  have HE := Lib.hid (show ∃ l' ds', Wb fb w0 (w4.drew.setCells t2 (k * 261) L'.toArray.toList) X cnt md l' l' ds' vl vw ∧ Docs w0 l' ds' ∧ l'.length = l.length from by
    refine ⟨l.set k (g, nDropKid x q b), ds.set k L', ?_, HHD.out.set_ HHk.out HD'.out, by simp⟩
    have z := m1.relist (x' := nDropKid x q b) HHk.out
    rw [HHD.out.1, ← HV2.out] at z
    exact z)
  clear hwb m1 m2 hkd
  go_wp2_with (refine wpList_store_mid rfl 59 (.tmp 8) (.tmp 46) rfl (w.heap.size + 1) 0 L'.toArray rfl rfl HT3.out HLn2.out.szA HLn2.out.all1 ?_; rw [HW4.out])
  refine wp_region_held_drew (S := (fun w' => w'.cell? ⟨X, 2, none⟩ = some (.slice (some ⟨t2, 0, none⟩) l.length cap2) ∧ w'.rangeAt (w.heap.size + 1) 0 L')) (by kernel_rfl) HS22.out (fun hHeld => ?_)
  refine wpAnyH_take (i := 0) (oi := { dst := some 126, op := Op.move (Operand.tmp 0), type := 25, pos := "law.go:75", after := #[], guard := none }) (v := ?v16) rfl (by kernel_rfl) (by kernel_rfl) (by kernel_rfl) (fun _ _ _ h => h) (Or.inl ⟨by rfl, ?hy16⟩) hHeld ?rest16
  case hy16 => (intro w' hSw; (try dsimp only at hSw); go_simp; (try with_reducible rfl))
  try simp only [Act.put, List.setIfInBounds_toArray, List.set_cons_zero, List.set_cons_succ]
  refine wpAnyH_take (i := 1) (oi := { dst := some 127, op := Op.nilCheck (Operand.tmp 126), type := 0, pos := "law.go:75", after := #[{ on := 0, ground := Ground.data }], guard := none }) (v := ?v17) rfl (by kernel_rfl) (by kernel_rfl) (by kernel_rfl) (fun _ _ _ h => h) (Or.inl ⟨by rfl, ?hy17⟩) hHeld ?rest17
  case hy17 => (intro w' hSw; (try dsimp only at hSw); go_simp; (try with_reducible rfl))
  try simp only [Act.put, List.setIfInBounds_toArray, List.set_cons_zero, List.set_cons_succ]
  refine wpAnyH_take (i := 2) (oi := { dst := some 128, op := Op.fieldAddr 36 (Operand.tmp 127) 2, type := 0, pos := "law.go:75", after := #[{ on := 1, ground := Ground.data }], guard := none }) (v := ?v18) rfl (by kernel_rfl) (by kernel_rfl) (by kernel_rfl) (fun _ _ _ h => h) (Or.inl ⟨by rfl, ?hy18⟩) hHeld ?rest18
  case hy18 => (intro w' hSw; (try dsimp only at hSw); go_simp; (try with_reducible rfl))
  try simp only [Act.put, List.setIfInBounds_toArray, List.set_cons_zero, List.set_cons_succ]
  refine wpAnyH_take (i := 3) (oi := { dst := some 129, op := Op.load 34 (Operand.tmp 128), type := 34, pos := "law.go:75", after := #[{ on := 2, ground := Ground.data }], guard := none }) (v := ?v19) rfl (by kernel_rfl) (by kernel_rfl) (by kernel_rfl) (fun _ _ _ h => h) (Or.inl ⟨by rfl, ?hy19⟩) hHeld ?rest19
  case hy19 => (intro w' hSw; (try dsimp only at hSw); go_simp; (try with_reducible rfl))
  try simp only [Act.put, List.setIfInBounds_toArray, List.set_cons_zero, List.set_cons_succ]
  refine wpAnyH_take (i := 4) (oi := { dst := some 130, op := Op.move (Operand.tmp 2), type := 3, pos := "law.go:75", after := #[], guard := none }) (v := ?v20) rfl (by kernel_rfl) (by kernel_rfl) (by kernel_rfl) (fun _ _ _ h => h) (Or.inl ⟨by rfl, ?hy20⟩) hHeld ?rest20
  case hy20 => (intro w' hSw; (try dsimp only at hSw); go_simp; (try with_reducible rfl))
  try simp only [Act.put, List.setIfInBounds_toArray, List.set_cons_zero, List.set_cons_succ]
  refine wpAnyH_take (i := 5) (oi := { dst := some 131, op := Op.load 59 (Operand.tmp 8), type := 59, pos := "law.go:75", after := #[], guard := none }) (v := .agg L'.toArray) rfl (by kernel_rfl) (by kernel_rfl) (by kernel_rfl) (fun _ _ _ h => h) (yieldsIf_load_mid (by rfl) 59 (.tmp 8) rfl (w.heap.size + 1) 0 (by rfl) L' _ (fun _ h => h.2) Tryz.underlying59 rfl HLn2.out.sz) hHeld ?_
  try simp only [Act.put, List.setIfInBounds_toArray, List.set_cons_zero, List.set_cons_succ]
  refine wpAnyH_take (i := 6) (oi := { dst := some 132, op := Op.indexAddr 34 (Operand.tmp 129) (Operand.tmp 130), type := 0, pos := "law.go:75", after := #[{ on := 3, ground := Ground.data }, { on := 4, ground := Ground.data }, { on := 0, ground := Ground.phase }, { on := 1, ground := Ground.phase }, { on := 2, ground := Ground.phase }, { on := 3, ground := Ground.phase }, { on := 4, ground := Ground.phase }, { on := 5, ground := Ground.phase }], guard := none }) (v := .pointer (some ⟨t2, k * 261, none⟩)) rfl (by kernel_rfl) (by kernel_rfl) (by kernel_rfl) (fun _ _ _ h => h) (Or.inl ⟨by rfl, ?hyV⟩) hHeld ?_
  case hyV => (intro w' hSw; (try dsimp only at hSw); go_simp; (try rw [if_pos ⟨by omega, hkl⟩]); (try simp only [Int.toNat_natCast, Nat.zero_add]); (try rfl))
  try simp only [Act.put, List.setIfInBounds_toArray, List.set_cons_zero, List.set_cons_succ]
  refine wpAnyH_ready (rs := [7]) (by kernel_rfl) (by simp) (AllReadyH.cons (o := { dst := none, op := Op.store 59 (Operand.tmp 132) (Operand.tmp 131), type := 0, pos := "law.go:75", after := #[{ on := 6, ground := Ground.data }, { on := 5, ground := Ground.data }, { on := 0, ground := Ground.phase }, { on := 1, ground := Ground.phase }, { on := 2, ground := Ground.phase }, { on := 3, ground := Ground.phase }, { on := 4, ground := Ground.phase }, { on := 5, ground := Ground.phase }], guard := none }) rfl (fun K hK => ?_) AllReadyH.nil)
  rw [if_pos (by rfl)]
  refine wp_store_mid 59 (.tmp 132) (.tmp 131) rfl t2 (k * 261) L'.toArray (by rfl) (by rfl) HTh22.out HLn2.out.szA HLn2.out.all1 ?_
  refine hK.out _ _ HS23.out (fun hHeld' => ?_)
  clear hK K hHeld
  have hHeld := hHeld'
  clear hHeld'
  try simp only [Act.put, List.setIfInBounds_toArray, List.set_cons_zero, List.set_cons_succ]
  refine wpAnyH_done (by kernel_rfl) ?_ _
  go_wp2
  go_ret
  exact ⟨by simp, HE.out⟩

set_option linter.unusedSimpArgs false in
set_option maxRecDepth 100000 in
set_option maxHeartbeats 8000000 in
theorem wwrite_none {fb : FB} {w0 w : World} {X : Nat} {cnt md : Int} {l : List (Nat × Nd)} {ds : List (List Value)} {vl vw : Value} (h : Wb fb w0 w X cnt md l l ds vl vw) (hD : Docs w0 l ds) {k g : Nat} {x : Nd} (hk : l[k]? = some (g, x)) (hf : l.length ≤ 1000)
    (d i j o v : Int) (b : UInt8) (A : Option Addr) (n c : Nat) (p : List UInt8) (hB : ∀ V, Below w0.heap.size w0 V → Byt V w0.heap.size A n p) (hn : n ≤ 140737488351232) (ho : 0 ≤ o ∧ o ≤ 255) (hd0 : 0 ≤ d) (hj0 : 0 ≤ j ∧ j ≤ 65535) (hd9 : d % 9 = 7) (hJ : j % ((l.length : Int) + 1) = 0) :
    Calls Tryz.prog 21 #[ptrN X, .agg #[.int .u8 d, .int .u16 i, .int .u16 j, .int .u8 o, .int .u8 (b.toNat : Int), .slice A n c, .int .u64 v], .int .i64 (k : Int)] w fun e w' =>
      e = .returned (.bool true) ∧ ∃ l' ds', Wb fb w0 w' X cnt md l' l' ds' vl vw ∧ Docs w0 l' ds' ∧ l'.length = l.length := by
  have HFN := Lib.hid (And.intro hf hn)
  obtain ⟨Wa, hWa⟩ : ∃ Wa, w.alloc (.cells #[.int .u8 d, .int .u16 i, .int .u16 j, .int .u8 o, .int .u8 (b.toNat : Int), .slice A n c, .int .u64 v] 41) = Wa := ⟨_, rfl⟩
  have ba : Below w.heap.size w Wa := by rw [← hWa]; exact (Below.refl _ _).alloc (Nat.le_refl _) _
  have sa : Wa.heap.size = w.heap.size + 1 := by rw [← hWa]; simp
  have na : Blk Wa w.heap.size #[.int .u8 d, .int .u16 i, .int .u16 j, .int .u8 o, .int .u8 (b.toNat : Int), .slice A n c, .int .u64 v] := by rw [← hWa]; exact Blk.new w _ _
  have ha := h.on ba
  have hkl0 := (List.getElem?_eq_some_iff.1 hk).1
  obtain ⟨L, hL⟩ : ∃ L, ds[k]? = some L := ⟨_, List.getElem?_eq_getElem (by rw [hD.1]; exact hkl0)⟩
  have hd := hD.2 k _ L hk hL
  obtain ⟨t, cap, hv, c1⟩ := ha.ptr hk
  obtain ⟨t2, cap2, hv2, c2, hlen⟩ := ha.dn hL
  rw [hD.1] at hv2
  have hkl : (k : Int) < (l.length : Int) := by omega
  have HLn := Lib.hid hd.dn
  have HS1 := Lib.hid (fun (V : World) (q : Below Wa.heap.size Wa V) => show V.cell? ⟨X, 1, none⟩ = some (.slice (some ⟨t, 0, none⟩) l.length cap) ∧ V.cell? ⟨t, k, none⟩ = some (ptrN g) ∧ V.cell? ⟨X, 2, none⟩ = some (.slice (some ⟨t2, 0, none⟩) l.length cap2) ∧ V.rangeAt t2 (k * 261) L ∧ V.cell? ⟨w.heap.size, 3, none⟩ = some (.int .u8 o) from by
    have hV := ha.on q
    obtain ⟨t', cap', hv', c1'⟩ := hV.ptr hk
    obtain ⟨t2', cap2', hv2', c2', _⟩ := hV.dn hL
    rw [hv] at hv'
    rw [hD.1] at hv2'
    rw [hv2] at hv2'
    injection hv' with e1 e2 e3
    injection e1 with e1
    injection hv2' with f1 f2 f3
    injection f1 with f1
    injection e1 with e1
    injection f1 with f1
    subst e1 f1
    have d1 := hV.cL
    have d2 := hV.cW
    rw [hv] at d1
    rw [hv2] at d2
    exact ⟨d1, c1', d2, c2', (na.below q na.lt).cell 3⟩)
  obtain ⟨q, hq⟩ : ∃ q : Int, o % 4 = q := ⟨_, rfl⟩
  have hq4 : o.tmod 4 = o % 4 := Int.tmod_eq_emod_of_nonneg ho.1
  have hd99 : d.tmod 9 = d % 9 := Int.tmod_eq_emod_of_nonneg hd0
  have ewq : IntKind.u64.wrap q = q := by simp [IntKind.wrap, IntKind.bits, IntKind.signed]; omega
  have HZ := Lib.hid dn_zero
  generalize hzs : zeroN.toArray = zs at HZ
  have HTh := Lib.hid (show (Wa.drew.alloc (.cells zs 59)).there (w.heap.size + 1) 0 L.toArray.size from by
    rw [← hzs, ← sa]; exact Lst.there (l := zeroN) (Blk.new Wa.drew _ _) (by rw [zeroN_length, List.size_toArray, hlen]; exact Nat.le_refl _))
  obtain ⟨W1, hW1⟩ : ∃ W1, (Wa.drew.alloc (.cells zs 59)).setCells (w.heap.size + 1) 0 L.toArray.toList = W1 := ⟨_, rfl⟩
  have lW : Lst W1 (w.heap.size + 1) L := by rw [← hW1, ← hzs, ← sa]; exact dn_over (Blk.new Wa.drew _ _) zeroN_length HLn.out
  have bW : Below Wa.heap.size Wa W1 := by
    rw [← hW1]
    have q1 : Below Wa.heap.size Wa (Wa.drew.alloc (.cells zs 59)) := (Below.refl _ _).drew.alloc (Nat.le_refl _) _
    exact q1.trans ((Kept.setCells (· = w.heap.size + 1) _ _ _ _ rfl).below (B := Wa.heap.size) q1.size (fun i e => by omega))
  have HB1 := Lib.hid (show Below Wa.heap.size Wa ((Wa.drew.alloc (.cells zs 59)).setCells (w.heap.size + 1) 0 L.toArray.toList) from by rw [hW1]; exact bW)
  have SA := Lib.hid sa
  have HST := Lib.hid (Ws.start h (ba.trans (bW.mono ba.size)) (na.below bW na.lt) lW)
  have HWd := Lib.hid hW1
  have HHD := Lib.hid hD
  have HHd := Lib.hid hd
  have HV2 := Lib.hid hv2
  have HUp := Lib.hid (h.nd.up_ hk)
  have HHk := Lib.hid hk
  have HPB := Lib.hid hB
  have e0 : W1.cell? ⟨w.heap.size, 0, none⟩ = some (.int .u8 d) := HST.out.ls.cell 0
  have e2 : W1.cell? ⟨w.heap.size, 2, none⟩ = some (.int .u16 j) := HST.out.ls.cell 2
  have e4 : W1.cell? ⟨w.heap.size, 4, none⟩ = some (.int .u8 (b.toNat : Int)) := HST.out.ls.cell 4
  have e5 : W1.cell? ⟨w.heap.size, 5, none⟩ = some (.slice A n c) := HST.out.ls.cell 5
  have e6 : W1.cell? ⟨w.heap.size, 6, none⟩ = some (.int .u64 v) := HST.out.ls.cell 6
  clear hW1 hzs c1 c2 hlen hL hD hd ba ha na bW lW hv2 h hk hB hkl0
  have HV1 := Lib.hid hv
  clear hv
  go_enter Tryz.func21, Tryz.ntmps21
  go_wp2_with fail
  try rw [hWa]
  clear hWa
  refine wp_region_held_drew (S := (fun w' => w'.cell? ⟨X, 1, none⟩ = some (.slice (some ⟨t, 0, none⟩) l.length cap) ∧ w'.cell? ⟨t, k, none⟩ = some (ptrN g) ∧ w'.cell? ⟨X, 2, none⟩ = some (.slice (some ⟨t2, 0, none⟩) l.length cap2) ∧ w'.rangeAt t2 (k * 261) L ∧ w'.cell? ⟨w.heap.size, 3, none⟩ = some (.int .u8 o))) (by kernel_rfl) (HS1.out _ (Below.refl _ _).drew) (fun hHeld => ?_)
  refine wpAnyH_take (i := 0) (oi := { dst := some 14, op := Op.move (Operand.tmp 0), type := 25, pos := "law.go:51", after := #[], guard := none }) (v := ?v1) rfl (by kernel_rfl) (by kernel_rfl) (by kernel_rfl) (fun _ _ _ h => h) (Or.inl ⟨by rfl, ?hy1⟩) hHeld ?rest1
  case hy1 => (intro w' hSw; (try dsimp only at hSw); go_simp; (try with_reducible rfl))
  try simp only [Act.put, List.setIfInBounds_toArray, List.set_cons_zero, List.set_cons_succ]
  refine wpAnyH_take (i := 1) (oi := { dst := some 15, op := Op.nilCheck (Operand.tmp 14), type := 0, pos := "law.go:51", after := #[{ on := 0, ground := Ground.data }], guard := none }) (v := ?v2) rfl (by kernel_rfl) (by kernel_rfl) (by kernel_rfl) (fun _ _ _ h => h) (Or.inl ⟨by rfl, ?hy2⟩) hHeld ?rest2
  case hy2 => (intro w' hSw; (try dsimp only at hSw); go_simp; (try with_reducible rfl))
  try simp only [Act.put, List.setIfInBounds_toArray, List.set_cons_zero, List.set_cons_succ]
  refine wpAnyH_take (i := 2) (oi := { dst := some 16, op := Op.fieldAddr 36 (Operand.tmp 15) 1, type := 0, pos := "law.go:51", after := #[{ on := 1, ground := Ground.data }], guard := none }) (v := ?v3) rfl (by kernel_rfl) (by kernel_rfl) (by kernel_rfl) (fun _ _ _ h => h) (Or.inl ⟨by rfl, ?hy3⟩) hHeld ?rest3
  case hy3 => (intro w' hSw; (try dsimp only at hSw); go_simp; (try with_reducible rfl))
  try simp only [Act.put, List.setIfInBounds_toArray, List.set_cons_zero, List.set_cons_succ]
  refine wpAnyH_take (i := 3) (oi := { dst := some 17, op := Op.load 33 (Operand.tmp 16), type := 33, pos := "law.go:51", after := #[{ on := 2, ground := Ground.data }], guard := none }) (v := ?v4) rfl (by kernel_rfl) (by kernel_rfl) (by kernel_rfl) (fun _ _ _ h => h) (Or.inl ⟨by rfl, ?hy4⟩) hHeld ?rest4
  case hy4 => (intro w' hSw; (try dsimp only at hSw); go_simp; (try with_reducible rfl))
  try simp only [Act.put, List.setIfInBounds_toArray, List.set_cons_zero, List.set_cons_succ]
  refine wpAnyH_take (i := 4) (oi := { dst := some 18, op := Op.move (Operand.tmp 2), type := 3, pos := "law.go:51", after := #[], guard := none }) (v := ?v5) rfl (by kernel_rfl) (by kernel_rfl) (by kernel_rfl) (fun _ _ _ h => h) (Or.inl ⟨by rfl, ?hy5⟩) hHeld ?rest5
  case hy5 => (intro w' hSw; (try dsimp only at hSw); go_simp; (try with_reducible rfl))
  try simp only [Act.put, List.setIfInBounds_toArray, List.set_cons_zero, List.set_cons_succ]
  refine wpAnyH_take (i := 5) (oi := { dst := some 19, op := Op.indexAddr 33 (Operand.tmp 17) (Operand.tmp 18), type := 0, pos := "law.go:51", after := #[{ on := 3, ground := Ground.data }, { on := 4, ground := Ground.data }], guard := none }) (v := .pointer (some ⟨t, k, none⟩)) rfl (by kernel_rfl) (by kernel_rfl) (by kernel_rfl) (fun _ _ _ h => h) (Or.inl ⟨by rfl, ?hyV⟩) hHeld ?_
  case hyV => (intro w' hSw; (try dsimp only at hSw); go_simp; (try rw [if_pos ⟨by omega, hkl⟩]); (try simp only [Int.toNat_natCast, Nat.mul_one, Nat.zero_add]); (try rfl))
  try simp only [Act.put, List.setIfInBounds_toArray, List.set_cons_zero, List.set_cons_succ]
  refine wpAnyH_take (i := 6) (oi := { dst := some 20, op := Op.load 46 (Operand.tmp 19), type := 46, pos := "law.go:51", after := #[{ on := 5, ground := Ground.data }], guard := none }) (v := ?v6) rfl (by kernel_rfl) (by kernel_rfl) (by kernel_rfl) (fun _ _ _ h => h) (Or.inl ⟨by rfl, ?hy6⟩) hHeld ?rest6
  case hy6 => (intro w' hSw; (try dsimp only at hSw); go_simp; (try with_reducible rfl))
  try simp only [Act.put, List.setIfInBounds_toArray, List.set_cons_zero, List.set_cons_succ]
  refine wpAnyH_take (i := 7) (oi := { dst := some 21, op := Op.move (Operand.tmp 0), type := 25, pos := "law.go:51", after := #[{ on := 19, ground := Ground.gcOnly Departure.lateStores }], guard := none }) (v := ?v7) rfl (by kernel_rfl) (by kernel_rfl) (by kernel_rfl) (fun _ _ _ h => h) (Or.inl ⟨by rfl, ?hy7⟩) hHeld ?rest7
  case hy7 => (intro w' hSw; (try dsimp only at hSw); go_simp; (try with_reducible rfl))
  try simp only [Act.put, List.setIfInBounds_toArray, List.set_cons_zero, List.set_cons_succ]
  refine wpAnyH_take (i := 8) (oi := { dst := some 22, op := Op.nilCheck (Operand.tmp 21), type := 0, pos := "law.go:51", after := #[{ on := 7, ground := Ground.data }, { on := 19, ground := Ground.gcOnly Departure.lateStores }], guard := none }) (v := ?v8) rfl (by kernel_rfl) (by kernel_rfl) (by kernel_rfl) (fun _ _ _ h => h) (Or.inl ⟨by rfl, ?hy8⟩) hHeld ?rest8
  case hy8 => (intro w' hSw; (try dsimp only at hSw); go_simp; (try with_reducible rfl))
  try simp only [Act.put, List.setIfInBounds_toArray, List.set_cons_zero, List.set_cons_succ]
  refine wpAnyH_take (i := 9) (oi := { dst := some 23, op := Op.fieldAddr 36 (Operand.tmp 22) 2, type := 0, pos := "law.go:51", after := #[{ on := 8, ground := Ground.data }, { on := 19, ground := Ground.gcOnly Departure.lateStores }], guard := none }) (v := ?v9) rfl (by kernel_rfl) (by kernel_rfl) (by kernel_rfl) (fun _ _ _ h => h) (Or.inl ⟨by rfl, ?hy9⟩) hHeld ?rest9
  case hy9 => (intro w' hSw; (try dsimp only at hSw); go_simp; (try with_reducible rfl))
  try simp only [Act.put, List.setIfInBounds_toArray, List.set_cons_zero, List.set_cons_succ]
  refine wpAnyH_take (i := 10) (oi := { dst := some 24, op := Op.load 34 (Operand.tmp 23), type := 34, pos := "law.go:51", after := #[{ on := 9, ground := Ground.data }, { on := 19, ground := Ground.gcOnly Departure.lateStores }], guard := none }) (v := ?v10) rfl (by kernel_rfl) (by kernel_rfl) (by kernel_rfl) (fun _ _ _ h => h) (Or.inl ⟨by rfl, ?hy10⟩) hHeld ?rest10
  case hy10 => (intro w' hSw; (try dsimp only at hSw); go_simp; (try with_reducible rfl))
  try simp only [Act.put, List.setIfInBounds_toArray, List.set_cons_zero, List.set_cons_succ]
  refine wpAnyH_take (i := 11) (oi := { dst := some 25, op := Op.move (Operand.tmp 2), type := 3, pos := "law.go:51", after := #[{ on := 19, ground := Ground.gcOnly Departure.lateStores }], guard := none }) (v := ?v11) rfl (by kernel_rfl) (by kernel_rfl) (by kernel_rfl) (fun _ _ _ h => h) (Or.inl ⟨by rfl, ?hy11⟩) hHeld ?rest11
  case hy11 => (intro w' hSw; (try dsimp only at hSw); go_simp; (try with_reducible rfl))
  try simp only [Act.put, List.setIfInBounds_toArray, List.set_cons_zero, List.set_cons_succ]
  refine wpAnyH_take (i := 12) (oi := { dst := some 26, op := Op.indexAddr 34 (Operand.tmp 24) (Operand.tmp 25), type := 0, pos := "law.go:51", after := #[{ on := 10, ground := Ground.data }, { on := 11, ground := Ground.data }, { on := 19, ground := Ground.gcOnly Departure.lateStores }], guard := none }) (v := .pointer (some ⟨t2, k * 261, none⟩)) rfl (by kernel_rfl) (by kernel_rfl) (by kernel_rfl) (fun _ _ _ h => h) (Or.inl ⟨by rfl, ?hyV⟩) hHeld ?_
  case hyV => (intro w' hSw; (try dsimp only at hSw); go_simp; (try rw [if_pos ⟨by omega, hkl⟩]); (try simp only [Int.toNat_natCast, Nat.zero_add]); (try rfl))
  try simp only [Act.put, List.setIfInBounds_toArray, List.set_cons_zero, List.set_cons_succ]
  refine wpAnyH_take (i := 13) (oi := { dst := some 27, op := Op.load 59 (Operand.tmp 26), type := 59, pos := "law.go:51", after := #[{ on := 12, ground := Ground.data }, { on := 19, ground := Ground.gcOnly Departure.lateStores }], guard := none }) (v := .agg L.toArray) rfl (by kernel_rfl) (by kernel_rfl) (by kernel_rfl) (fun _ _ _ h => h) (yieldsIf_load_mid (by rfl) 59 (.tmp 26) rfl t2 (k * 261) (by rfl) L _ (fun _ h => h.2.2.2.1) Tryz.underlying59 rfl HLn.out.sz) hHeld ?_
  try simp only [Act.put, List.setIfInBounds_toArray, List.set_cons_zero, List.set_cons_succ]
  refine wpAnyH_take (i := 14) (oi := { dst := some 28, op := Op.fieldAddr 41 (Operand.tmp 4) 3, type := 0, pos := "law.go:51", after := #[{ on := 20, ground := Ground.gcOnly Departure.lateStores }], guard := none }) (v := ?v12) rfl (by kernel_rfl) (by kernel_rfl) (by kernel_rfl) (fun _ _ _ h => h) (Or.inl ⟨by rfl, ?hy12⟩) hHeld ?rest12
  case hy12 => (intro w' hSw; (try dsimp only at hSw); go_simp; (try with_reducible rfl))
  try simp only [Act.put, List.setIfInBounds_toArray, List.set_cons_zero, List.set_cons_succ]
  refine wpAnyH_take (i := 15) (oi := { dst := some 29, op := Op.load 5 (Operand.tmp 28), type := 5, pos := "law.go:51", after := #[{ on := 14, ground := Ground.data }, { on := 20, ground := Ground.gcOnly Departure.lateStores }], guard := none }) (v := ?v13) rfl (by kernel_rfl) (by kernel_rfl) (by kernel_rfl) (fun _ _ _ h => h) (Or.inl ⟨by rfl, ?hy13⟩) hHeld ?rest13
  case hy13 => (intro w' hSw; (try dsimp only at hSw); go_simp; (try with_reducible rfl))
  try simp only [Act.put, List.setIfInBounds_toArray, List.set_cons_zero, List.set_cons_succ]
  refine wpAnyH_take (i := 16) (oi := { dst := some 30, op := Op.binOp BinOp.rem 5 (Operand.tmp 29) (Operand.const (Value.int IntKind.u8 4)) 5, type := 5, pos := "law.go:51", after := #[{ on := 15, ground := Ground.data }, { on := 20, ground := Ground.gcOnly Departure.lateStores }], guard := none }) (v := .int .u8 q) rfl (by kernel_rfl) (by kernel_rfl) (by kernel_rfl) (fun _ _ _ h => h) (Or.inl ⟨by rfl, ?hyV⟩) hHeld ?_
  case hyV => (intro w' hSw; (try dsimp only at hSw); go_simp; (try rw [hq4]); (try rw [hq]); (try rfl))
  try simp only [Act.put, List.setIfInBounds_toArray, List.set_cons_zero, List.set_cons_succ]
  refine wpAnyH_take (i := 17) (oi := { dst := some 31, op := Op.convert 5 39 (Operand.tmp 30), type := 39, pos := "law.go:51", after := #[{ on := 16, ground := Ground.data }, { on := 20, ground := Ground.gcOnly Departure.lateStores }], guard := none }) (v := .int .u64 q) rfl (by kernel_rfl) (by kernel_rfl) (by kernel_rfl) (fun _ _ _ h => h) (Or.inl ⟨by rfl, ?hyV⟩) hHeld ?_
  case hyV => (intro w' hSw; (try dsimp only at hSw); go_simp; (try rw [ewq]); (try rfl))
  try simp only [Act.put, List.setIfInBounds_toArray, List.set_cons_zero, List.set_cons_succ]
  refine wpAnyH_ready (rs := [18]) (by kernel_rfl) (by simp) (AllReadyH.cons (o := { dst := some 8, op := Op.alloc 59, type := 0, pos := "law.go:51", after := #[], guard := none }) rfl (fun K hK => ?_) AllReadyH.nil)
  rw [if_pos (by rfl)]
  refine wp_alloc_z 59 rfl zs HZ.out ?_
  refine hK.out _ _ (HS1.out _ ((Below.refl _ _).drew.alloc (Nat.le_refl _) _)) (fun hHeld' => ?_)
  clear hK K hHeld
  have hHeld := hHeld'
  clear hHeld'
  try simp only [Act.put, List.setIfInBounds_toArray, List.set_cons_zero, List.set_cons_succ]
  refine wpAnyH_take (i := 19) (oi := { dst := some 7, op := Op.assign (Operand.tmp 20), type := 46, pos := "law.go:51", after := #[{ on := 6, ground := Ground.data }, { on := 0, ground := Ground.phase }, { on := 1, ground := Ground.phase }, { on := 2, ground := Ground.phase }, { on := 3, ground := Ground.phase }, { on := 4, ground := Ground.phase }, { on := 5, ground := Ground.phase }, { on := 6, ground := Ground.phase }, { on := 7, ground := Ground.textOnly Departure.lateStores }, { on := 8, ground := Ground.textOnly Departure.lateStores }, { on := 9, ground := Ground.textOnly Departure.lateStores }, { on := 10, ground := Ground.textOnly Departure.lateStores }, { on := 11, ground := Ground.textOnly Departure.lateStores }, { on := 12, ground := Ground.textOnly Departure.lateStores }, { on := 13, ground := Ground.textOnly Departure.lateStores }, { on := 14, ground := Ground.textOnly Departure.lateStores }, { on := 15, ground := Ground.textOnly Departure.lateStores }, { on := 16, ground := Ground.textOnly Departure.lateStores }, { on := 17, ground := Ground.textOnly Departure.lateStores }, { on := 18, ground := Ground.phase }], guard := none }) (v := ?v14) rfl (by kernel_rfl) (by kernel_rfl) (by kernel_rfl) (fun _ _ _ h => h) (Or.inl ⟨by rfl, ?hy14⟩) hHeld ?rest14
  case hy14 => (intro w' hSw; (try dsimp only at hSw); go_simp; (try with_reducible rfl))
  try simp only [Act.put, List.setIfInBounds_toArray, List.set_cons_zero, List.set_cons_succ]
  refine wpAnyH_ready (rs := [20]) (by kernel_rfl) (by simp) (AllReadyH.cons (o := { dst := none, op := Op.store 59 (Operand.tmp 8) (Operand.tmp 27), type := 0, pos := "law.go:51", after := #[{ on := 18, ground := Ground.data }, { on := 13, ground := Ground.data }, { on := 19, ground := Ground.chain }, { on := 0, ground := Ground.phase }, { on := 1, ground := Ground.phase }, { on := 2, ground := Ground.phase }, { on := 3, ground := Ground.phase }, { on := 4, ground := Ground.phase }, { on := 5, ground := Ground.phase }, { on := 6, ground := Ground.phase }, { on := 7, ground := Ground.phase }, { on := 8, ground := Ground.phase }, { on := 9, ground := Ground.phase }, { on := 10, ground := Ground.phase }, { on := 11, ground := Ground.phase }, { on := 12, ground := Ground.phase }, { on := 13, ground := Ground.phase }, { on := 14, ground := Ground.textOnly Departure.lateStores }, { on := 15, ground := Ground.textOnly Departure.lateStores }, { on := 16, ground := Ground.textOnly Departure.lateStores }, { on := 17, ground := Ground.textOnly Departure.lateStores }, { on := 18, ground := Ground.phase }, { on := 19, ground := Ground.phase }], guard := none }) rfl (fun K hK => ?_) AllReadyH.nil)
  rw [if_pos (by rfl)]
  refine wp_store_mid 59 (.tmp 8) (.tmp 27) rfl (w.heap.size + 1) 0 L.toArray (by rw [← SA.out]; rfl) (by rfl) HTh.out HLn.out.szA HLn.out.all1 ?_
  refine hK.out _ _ (HS1.out _ HB1.out) (fun hHeld' => ?_)
  clear hK K hHeld
  have hHeld := hHeld'
  clear hHeld'
  try simp only [Act.put, List.setIfInBounds_toArray, List.set_cons_zero, List.set_cons_succ]
  refine wpAnyH_take (i := 21) (oi := { dst := some 9, op := Op.assign (Operand.tmp 31), type := 39, pos := "law.go:51", after := #[{ on := 17, ground := Ground.data }, { on := 20, ground := Ground.chain }, { on := 0, ground := Ground.phase }, { on := 1, ground := Ground.phase }, { on := 2, ground := Ground.phase }, { on := 3, ground := Ground.phase }, { on := 4, ground := Ground.phase }, { on := 5, ground := Ground.phase }, { on := 6, ground := Ground.phase }, { on := 7, ground := Ground.phase }, { on := 8, ground := Ground.phase }, { on := 9, ground := Ground.phase }, { on := 10, ground := Ground.phase }, { on := 11, ground := Ground.phase }, { on := 12, ground := Ground.phase }, { on := 13, ground := Ground.phase }, { on := 14, ground := Ground.phase }, { on := 15, ground := Ground.phase }, { on := 16, ground := Ground.phase }, { on := 17, ground := Ground.phase }, { on := 18, ground := Ground.phase }, { on := 19, ground := Ground.phase }, { on := 20, ground := Ground.phase }], guard := none }) (v := ?v15) rfl (by kernel_rfl) (by kernel_rfl) (by kernel_rfl) (fun _ _ _ h => h) (Or.inl ⟨by rfl, ?hy15⟩) hHeld ?rest15
  case hy15 => (intro w' hSw; (try dsimp only at hSw); go_simp; (try with_reducible rfl))
  try simp only [Act.put, List.setIfInBounds_toArray, List.set_cons_zero, List.set_cons_succ]
  refine wpAnyH_done (by kernel_rfl) ?_ _
  go_upto_region 2 with fail
  first
    | rw [HWd.out]
    | rw [show (Wa.alloc (.cells zs 59)).drew.setCells (w.heap.size + 1) 0 L = W1 from HWd.out]
  clear HS1 HTh HB1 HWd HZ SA ewq
  go_upto_region 6 with fail
  try rw [hd99]
  try rw [hd9]
  clear hq4 hd99 hq
  go_upto_region 16 with fail
  have hln : (0 : Int) ≤ (l.length : Int) ∧ (l.length : Int) ≤ 1000 := by omega
  have c1 : W1.cell? ⟨X, 1, none⟩ = some (.slice (some ⟨t, 0, none⟩) l.length cap) := by have := HST.out.wb.cL; rw [HV1.out] at this; exact this
  have ewj : IntKind.i64.wrap j = j := by rw [IntKind.wrap_i64]; omega
  have ewl : IntKind.i64.wrap ((l.length : Int) + 1) = (l.length : Int) + 1 := by rw [IntKind.wrap_i64]; omega
  have nzl : ¬ ((l.length : Int) + 1 = 0) := by omega
  have hjt : j.tmod ((l.length : Int) + 1) = 0 := by rw [Int.tmod_eq_emod_of_nonneg hj0.1]; exact hJ
  have ewJ : IntKind.i64.wrap 0 = 0 := by rw [IntKind.wrap_i64]; omega
  go_quiet (fail)
  try rw [hjt]
  have HST2 := Lib.hid (HST.out.on (Still.below (Still.drewN W1 nq) _))
  obtain ⟨U, hU⟩ : ∃ U, W1.drewN nq = U := ⟨_, rfl⟩
  rw [hU] at HST2
  rw [hU]
  clear hU c1 hjt HST e0 e2 e4 e5 e6 ewj ewl nzl ewJ
  have HST := HST2
  have e0 : U.cell? ⟨w.heap.size, 0, none⟩ = some (.int .u8 d) := HST.out.ls.cell 0
  have e2 : U.cell? ⟨w.heap.size, 2, none⟩ = some (.int .u16 j) := HST.out.ls.cell 2
  have e4 : U.cell? ⟨w.heap.size, 4, none⟩ = some (.int .u8 (b.toNat : Int)) := HST.out.ls.cell 4
  have e5 : U.cell? ⟨w.heap.size, 5, none⟩ = some (.slice A n c) := HST.out.ls.cell 5
  have e6 : U.cell? ⟨w.heap.size, 6, none⟩ = some (.int .u64 v) := HST.out.ls.cell 6
  clear HST2
  obtain ⟨L', hd', hc'⟩ := doc_setkid HHd.out HUp.out q b 0 (Nat.zero_le _) (by rw [List.length_map]; exact hf)
  have C1 := Lib.hid (HST.out.nn.setnone HHk.out HST.out.wb.below.size HST.out.hN q b _ rfl)
  rw [show kp (l.map Prod.fst) ((0 : Nat) : Int) = none from rfl] at hd' hc'
  have HC' := Lib.hid (show ∀ w, Calls Tryz.prog 52 #[.agg L.toArray, .int .u64 q, .int .u8 (b.toNat : Int), .int .i64 0] w fun e w' => e = .returned (.tuple #[.agg L'.toArray, .int .i64 (setKN x q none)]) ∧ Below w.heap.size w w' from hc')
  have HD' := Lib.hid hd'
  have HLn2 := Lib.hid hd'.dn
  clear hc' hd'
  obtain ⟨er, her⟩ : ∃ er, setKN x q none = er := ⟨_, rfl⟩
  rw [her] at C1 HC'
  clear her
  go_wp2_with fail
  (with_reducible refine C1.out.mono ?_)
  rintro e w2 ⟨rfl, nn, kk⟩
  have S2 := Lib.hid (HST.out.node nn kk)
  have HR2 := Lib.hid (Lst.all S2.out.lg)
  have f4 : w2.cell? ⟨w.heap.size, 4, none⟩ = some (.int .u8 (b.toNat : Int)) := S2.out.ls.cell 4
  clear nn kk C1 HST e0 e2 e4 e5 e6
  go_wp2_with (refine wpList_load_mid rfl 59 (.tmp 8) rfl (w.heap.size + 1) 0 rfl L _ HR2.out Tryz.underlying59 rfl HLn.out.sz ?_)
  (with_reducible refine (HC'.out _).mono ?_)
  rintro e w3 ⟨rfl, h3⟩
  obtain ⟨s4, th4⟩ := (S2.out.on h3).lay HLn.out.len HLn2.out
  obtain ⟨w4, hw4⟩ : ∃ w4, w3.setCells (w.heap.size + 1) 0 L'.toArray.toList = w4 := ⟨_, rfl⟩
  rw [hw4] at s4
  have HT3 := Lib.hid th4
  have HW4 := Lib.hid hw4
  have S4 := Lib.hid s4
  clear hw4 s4 th4 h3 S2 HR2 HC'
  have hwb : Wb fb w0 w4.drew X cnt md (l.set k (g, nSetKid x q b none)) l ds vl (.slice (some ⟨t2, 0, none⟩) ds.length cap2) := by have := S4.out.wb.on (Below.refl _ _).drew; rw [HV2.out] at this; rw [HHD.out.1]; exact this
  have hkd : k < ds.length := by rw [HHD.out.1]; omega
  obtain ⟨m1, m2⟩ := hwb.put hkd HLn2.out
  have HTh22 := Lib.hid (show w4.drew.there t2 (k * 261) L'.toArray.size from m2)
  have HS22 := Lib.hid (show w4.drew.cell? ⟨X, 2, none⟩ = some (.slice (some ⟨t2, 0, none⟩) l.length cap2) ∧ w4.drew.rangeAt (w.heap.size + 1) 0 L' from ⟨by have := hwb.cW; rw [HHD.out.1] at this; exact this, Lst.all (show Lst w4.drew _ _ from S4.out.lg)⟩)
  have hne2 : ¬ t2 = w.heap.size + 1 := fun e => S4.out.ne.1 (.inr (.inr (.inl (by rw [HV2.out]; rw [← e]; rfl))))
  have HS23 := Lib.hid (show (w4.drew.setCells t2 (k * 261) L'.toArray.toList).cell? ⟨X, 2, none⟩ = some (.slice (some ⟨t2, 0, none⟩) l.length cap2) ∧ (w4.drew.setCells t2 (k * 261) L'.toArray.toList).rangeAt (w.heap.size + 1) 0 L' from
    ⟨by have := m1.cW; rw [HHD.out.1] at this; exact this, Lst.all (show Lst (w4.drew.setCells t2 (k * 261) L'.toArray.toList) _ _ from (Kept.setCells (· = t2) w4.drew t2 (k * 261) L'.toArray.toList rfl).blk (show Lst w4.drew _ _ from S4.out.lg) (fun e => hne2 e.symm))⟩)
  have HE := Lib.hid (show ∃ l' ds', Wb fb w0 (w4.drew.setCells t2 (k * 261) L'.toArray.toList) X cnt md l' l' ds' vl vw ∧ Docs w0 l' ds' ∧ l'.length = l.length from by
    refine ⟨l.set k (g, nSetKid x q b none), ds.set k L', ?_, HHD.out.set_ HHk.out HD'.out, by simp⟩
    have z := m1.relist (x' := nSetKid x q b none) HHk.out
    rw [HHD.out.1, ← HV2.out] at z
    exact z)
  clear hwb m1 m2 hkd
  go_wp2_with (refine wpList_store_mid rfl 59 (.tmp 8) (.tmp 124) rfl (w.heap.size + 1) 0 L'.toArray rfl rfl HT3.out HLn2.out.szA HLn2.out.all1 ?_; rw [HW4.out])
  refine wp_region_held_drew (S := (fun w' => w'.cell? ⟨X, 2, none⟩ = some (.slice (some ⟨t2, 0, none⟩) l.length cap2) ∧ w'.rangeAt (w.heap.size + 1) 0 L')) (by kernel_rfl) HS22.out (fun hHeld => ?_)
  refine wpAnyH_take (i := 0) (oi := { dst := some 126, op := Op.move (Operand.tmp 0), type := 25, pos := "law.go:75", after := #[], guard := none }) (v := ?v16) rfl (by kernel_rfl) (by kernel_rfl) (by kernel_rfl) (fun _ _ _ h => h) (Or.inl ⟨by rfl, ?hy16⟩) hHeld ?rest16
  case hy16 => (intro w' hSw; (try dsimp only at hSw); go_simp; (try with_reducible rfl))
  try simp only [Act.put, List.setIfInBounds_toArray, List.set_cons_zero, List.set_cons_succ]
  refine wpAnyH_take (i := 1) (oi := { dst := some 127, op := Op.nilCheck (Operand.tmp 126), type := 0, pos := "law.go:75", after := #[{ on := 0, ground := Ground.data }], guard := none }) (v := ?v17) rfl (by kernel_rfl) (by kernel_rfl) (by kernel_rfl) (fun _ _ _ h => h) (Or.inl ⟨by rfl, ?hy17⟩) hHeld ?rest17
  case hy17 => (intro w' hSw; (try dsimp only at hSw); go_simp; (try with_reducible rfl))
  try simp only [Act.put, List.setIfInBounds_toArray, List.set_cons_zero, List.set_cons_succ]
  refine wpAnyH_take (i := 2) (oi := { dst := some 128, op := Op.fieldAddr 36 (Operand.tmp 127) 2, type := 0, pos := "law.go:75", after := #[{ on := 1, ground := Ground.data }], guard := none }) (v := ?v18) rfl (by kernel_rfl) (by kernel_rfl) (by kernel_rfl) (fun _ _ _ h => h) (Or.inl ⟨by rfl, ?hy18⟩) hHeld ?rest18
  case hy18 => (intro w' hSw; (try dsimp only at hSw); go_simp; (try with_reducible rfl))
  try simp only [Act.put, List.setIfInBounds_toArray, List.set_cons_zero, List.set_cons_succ]
  refine wpAnyH_take (i := 3) (oi := { dst := some 129, op := Op.load 34 (Operand.tmp 128), type := 34, pos := "law.go:75", after := #[{ on := 2, ground := Ground.data }], guard := none }) (v := ?v19) rfl (by kernel_rfl) (by kernel_rfl) (by kernel_rfl) (fun _ _ _ h => h) (Or.inl ⟨by rfl, ?hy19⟩) hHeld ?rest19
  case hy19 => (intro w' hSw; (try dsimp only at hSw); go_simp; (try with_reducible rfl))
  try simp only [Act.put, List.setIfInBounds_toArray, List.set_cons_zero, List.set_cons_succ]
  refine wpAnyH_take (i := 4) (oi := { dst := some 130, op := Op.move (Operand.tmp 2), type := 3, pos := "law.go:75", after := #[], guard := none }) (v := ?v20) rfl (by kernel_rfl) (by kernel_rfl) (by kernel_rfl) (fun _ _ _ h => h) (Or.inl ⟨by rfl, ?hy20⟩) hHeld ?rest20
  case hy20 => (intro w' hSw; (try dsimp only at hSw); go_simp; (try with_reducible rfl))
  try simp only [Act.put, List.setIfInBounds_toArray, List.set_cons_zero, List.set_cons_succ]
  refine wpAnyH_take (i := 5) (oi := { dst := some 131, op := Op.load 59 (Operand.tmp 8), type := 59, pos := "law.go:75", after := #[], guard := none }) (v := .agg L'.toArray) rfl (by kernel_rfl) (by kernel_rfl) (by kernel_rfl) (fun _ _ _ h => h) (yieldsIf_load_mid (by rfl) 59 (.tmp 8) rfl (w.heap.size + 1) 0 (by rfl) L' _ (fun _ h => h.2) Tryz.underlying59 rfl HLn2.out.sz) hHeld ?_
  try simp only [Act.put, List.setIfInBounds_toArray, List.set_cons_zero, List.set_cons_succ]
  refine wpAnyH_take (i := 6) (oi := { dst := some 132, op := Op.indexAddr 34 (Operand.tmp 129) (Operand.tmp 130), type := 0, pos := "law.go:75", after := #[{ on := 3, ground := Ground.data }, { on := 4, ground := Ground.data }, { on := 0, ground := Ground.phase }, { on := 1, ground := Ground.phase }, { on := 2, ground := Ground.phase }, { on := 3, ground := Ground.phase }, { on := 4, ground := Ground.phase }, { on := 5, ground := Ground.phase }], guard := none }) (v := .pointer (some ⟨t2, k * 261, none⟩)) rfl (by kernel_rfl) (by kernel_rfl) (by kernel_rfl) (fun _ _ _ h => h) (Or.inl ⟨by rfl, ?hyV⟩) hHeld ?_
  case hyV => (intro w' hSw; (try dsimp only at hSw); go_simp; (try rw [if_pos ⟨by omega, hkl⟩]); (try simp only [Int.toNat_natCast, Nat.zero_add]); (try rfl))
  try simp only [Act.put, List.setIfInBounds_toArray, List.set_cons_zero, List.set_cons_succ]
  refine wpAnyH_ready (rs := [7]) (by kernel_rfl) (by simp) (AllReadyH.cons (o := { dst := none, op := Op.store 59 (Operand.tmp 132) (Operand.tmp 131), type := 0, pos := "law.go:75", after := #[{ on := 6, ground := Ground.data }, { on := 5, ground := Ground.data }, { on := 0, ground := Ground.phase }, { on := 1, ground := Ground.phase }, { on := 2, ground := Ground.phase }, { on := 3, ground := Ground.phase }, { on := 4, ground := Ground.phase }, { on := 5, ground := Ground.phase }], guard := none }) rfl (fun K hK => ?_) AllReadyH.nil)
  rw [if_pos (by rfl)]
  refine wp_store_mid 59 (.tmp 132) (.tmp 131) rfl t2 (k * 261) L'.toArray (by rfl) (by rfl) HTh22.out HLn2.out.szA HLn2.out.all1 ?_
  refine hK.out _ _ HS23.out (fun hHeld' => ?_)
  clear hK K hHeld
  have hHeld := hHeld'
  clear hHeld'
  try simp only [Act.put, List.setIfInBounds_toArray, List.set_cons_zero, List.set_cons_succ]
  refine wpAnyH_done (by kernel_rfl) ?_ _
  go_wp2
  go_ret
  exact ⟨by simp, HE.out⟩

set_option linter.unusedSimpArgs false in
set_option maxRecDepth 100000 in
set_option maxHeartbeats 8000000 in
theorem wwrite_some {fb : FB} {w0 w : World} {X : Nat} {cnt md : Int} {l : List (Nat × Nd)} {ds : List (List Value)} {vl vw : Value} (h : Wb fb w0 w X cnt md l l ds vl vw) (hD : Docs w0 l ds) {k g : Nat} {x : Nd} (hk : l[k]? = some (g, x)) (hf : l.length ≤ 1000)
    (d i j o v : Int) (b : UInt8) (A : Option Addr) (n c : Nat) (p : List UInt8) (hB : ∀ V, Below w0.heap.size w0 V → Byt V w0.heap.size A n p) (hn : n ≤ 140737488351232) (ho : 0 ≤ o ∧ o ≤ 255) (hd0 : 0 ≤ d) (hj0 : 0 ≤ j ∧ j ≤ 65535) (hd9 : d % 9 = 7) (J : Nat) (hJ : j % ((l.length : Int) + 1) = (J : Int) + 1) (hJl : J < l.length) :
    Calls Tryz.prog 21 #[ptrN X, .agg #[.int .u8 d, .int .u16 i, .int .u16 j, .int .u8 o, .int .u8 (b.toNat : Int), .slice A n c, .int .u64 v], .int .i64 (k : Int)] w fun e w' =>
      e = .returned (.bool true) ∧ ∃ l' ds', Wb fb w0 w' X cnt md l' l' ds' vl vw ∧ Docs w0 l' ds' ∧ l'.length = l.length := by
  have HFN := Lib.hid (And.intro hf hn)
  obtain ⟨Wa, hWa⟩ : ∃ Wa, w.alloc (.cells #[.int .u8 d, .int .u16 i, .int .u16 j, .int .u8 o, .int .u8 (b.toNat : Int), .slice A n c, .int .u64 v] 41) = Wa := ⟨_, rfl⟩
  have ba : Below w.heap.size w Wa := by rw [← hWa]; exact (Below.refl _ _).alloc (Nat.le_refl _) _
  have sa : Wa.heap.size = w.heap.size + 1 := by rw [← hWa]; simp
  have na : Blk Wa w.heap.size #[.int .u8 d, .int .u16 i, .int .u16 j, .int .u8 o, .int .u8 (b.toNat : Int), .slice A n c, .int .u64 v] := by rw [← hWa]; exact Blk.new w _ _
  have ha := h.on ba
  have hkl0 := (List.getElem?_eq_some_iff.1 hk).1
  obtain ⟨L, hL⟩ : ∃ L, ds[k]? = some L := ⟨_, List.getElem?_eq_getElem (by rw [hD.1]; exact hkl0)⟩
  have hd := hD.2 k _ L hk hL
  obtain ⟨t, cap, hv, c1⟩ := ha.ptr hk
  obtain ⟨t2, cap2, hv2, c2, hlen⟩ := ha.dn hL
  rw [hD.1] at hv2
  have hkl : (k : Int) < (l.length : Int) := by omega
  have HLn := Lib.hid hd.dn
  have HS1 := Lib.hid (fun (V : World) (q : Below Wa.heap.size Wa V) => show V.cell? ⟨X, 1, none⟩ = some (.slice (some ⟨t, 0, none⟩) l.length cap) ∧ V.cell? ⟨t, k, none⟩ = some (ptrN g) ∧ V.cell? ⟨X, 2, none⟩ = some (.slice (some ⟨t2, 0, none⟩) l.length cap2) ∧ V.rangeAt t2 (k * 261) L ∧ V.cell? ⟨w.heap.size, 3, none⟩ = some (.int .u8 o) from by
    have hV := ha.on q
    obtain ⟨t', cap', hv', c1'⟩ := hV.ptr hk
    obtain ⟨t2', cap2', hv2', c2', _⟩ := hV.dn hL
    rw [hv] at hv'
    rw [hD.1] at hv2'
    rw [hv2] at hv2'
    injection hv' with e1 e2 e3
    injection e1 with e1
    injection hv2' with f1 f2 f3
    injection f1 with f1
    injection e1 with e1
    injection f1 with f1
    subst e1 f1
    have d1 := hV.cL
    have d2 := hV.cW
    rw [hv] at d1
    rw [hv2] at d2
    exact ⟨d1, c1', d2, c2', (na.below q na.lt).cell 3⟩)
  obtain ⟨q, hq⟩ : ∃ q : Int, o % 4 = q := ⟨_, rfl⟩
  have hq4 : o.tmod 4 = o % 4 := Int.tmod_eq_emod_of_nonneg ho.1
  have hd99 : d.tmod 9 = d % 9 := Int.tmod_eq_emod_of_nonneg hd0
  have ewq : IntKind.u64.wrap q = q := by simp [IntKind.wrap, IntKind.bits, IntKind.signed]; omega
  have HZ := Lib.hid dn_zero
  generalize hzs : zeroN.toArray = zs at HZ
  have HTh := Lib.hid (show (Wa.drew.alloc (.cells zs 59)).there (w.heap.size + 1) 0 L.toArray.size from by
    rw [← hzs, ← sa]; exact Lst.there (l := zeroN) (Blk.new Wa.drew _ _) (by rw [zeroN_length, List.size_toArray, hlen]; exact Nat.le_refl _))
  obtain ⟨W1, hW1⟩ : ∃ W1, (Wa.drew.alloc (.cells zs 59)).setCells (w.heap.size + 1) 0 L.toArray.toList = W1 := ⟨_, rfl⟩
  have lW : Lst W1 (w.heap.size + 1) L := by rw [← hW1, ← hzs, ← sa]; exact dn_over (Blk.new Wa.drew _ _) zeroN_length HLn.out
  have bW : Below Wa.heap.size Wa W1 := by
    rw [← hW1]
    have q1 : Below Wa.heap.size Wa (Wa.drew.alloc (.cells zs 59)) := (Below.refl _ _).drew.alloc (Nat.le_refl _) _
    exact q1.trans ((Kept.setCells (· = w.heap.size + 1) _ _ _ _ rfl).below (B := Wa.heap.size) q1.size (fun i e => by omega))
  have HB1 := Lib.hid (show Below Wa.heap.size Wa ((Wa.drew.alloc (.cells zs 59)).setCells (w.heap.size + 1) 0 L.toArray.toList) from by rw [hW1]; exact bW)
  have SA := Lib.hid sa
  have HST := Lib.hid (Ws.start h (ba.trans (bW.mono ba.size)) (na.below bW na.lt) lW)
  have HWd := Lib.hid hW1
  have HHD := Lib.hid hD
  have HHd := Lib.hid hd
  have HV2 := Lib.hid hv2
  have HUp := Lib.hid (h.nd.up_ hk)
  have HHk := Lib.hid hk
  have HPB := Lib.hid hB
  have e0 : W1.cell? ⟨w.heap.size, 0, none⟩ = some (.int .u8 d) := HST.out.ls.cell 0
  have e2 : W1.cell? ⟨w.heap.size, 2, none⟩ = some (.int .u16 j) := HST.out.ls.cell 2
  have e4 : W1.cell? ⟨w.heap.size, 4, none⟩ = some (.int .u8 (b.toNat : Int)) := HST.out.ls.cell 4
  have e5 : W1.cell? ⟨w.heap.size, 5, none⟩ = some (.slice A n c) := HST.out.ls.cell 5
  have e6 : W1.cell? ⟨w.heap.size, 6, none⟩ = some (.int .u64 v) := HST.out.ls.cell 6
  clear hW1 hzs c1 c2 hlen hL hD hd ba ha na bW lW hv2 h hk hB hkl0
  have HV1 := Lib.hid hv
  clear hv
  go_enter Tryz.func21, Tryz.ntmps21
  go_wp2_with fail
  try rw [hWa]
  clear hWa
  refine wp_region_held_drew (S := (fun w' => w'.cell? ⟨X, 1, none⟩ = some (.slice (some ⟨t, 0, none⟩) l.length cap) ∧ w'.cell? ⟨t, k, none⟩ = some (ptrN g) ∧ w'.cell? ⟨X, 2, none⟩ = some (.slice (some ⟨t2, 0, none⟩) l.length cap2) ∧ w'.rangeAt t2 (k * 261) L ∧ w'.cell? ⟨w.heap.size, 3, none⟩ = some (.int .u8 o))) (by kernel_rfl) (HS1.out _ (Below.refl _ _).drew) (fun hHeld => ?_)
  refine wpAnyH_take (i := 0) (oi := { dst := some 14, op := Op.move (Operand.tmp 0), type := 25, pos := "law.go:51", after := #[], guard := none }) (v := ?v1) rfl (by kernel_rfl) (by kernel_rfl) (by kernel_rfl) (fun _ _ _ h => h) (Or.inl ⟨by rfl, ?hy1⟩) hHeld ?rest1
  case hy1 => (intro w' hSw; (try dsimp only at hSw); go_simp; (try with_reducible rfl))
  try simp only [Act.put, List.setIfInBounds_toArray, List.set_cons_zero, List.set_cons_succ]
  refine wpAnyH_take (i := 1) (oi := { dst := some 15, op := Op.nilCheck (Operand.tmp 14), type := 0, pos := "law.go:51", after := #[{ on := 0, ground := Ground.data }], guard := none }) (v := ?v2) rfl (by kernel_rfl) (by kernel_rfl) (by kernel_rfl) (fun _ _ _ h => h) (Or.inl ⟨by rfl, ?hy2⟩) hHeld ?rest2
  case hy2 => (intro w' hSw; (try dsimp only at hSw); go_simp; (try with_reducible rfl))
  try simp only [Act.put, List.setIfInBounds_toArray, List.set_cons_zero, List.set_cons_succ]
  refine wpAnyH_take (i := 2) (oi := { dst := some 16, op := Op.fieldAddr 36 (Operand.tmp 15) 1, type := 0, pos := "law.go:51", after := #[{ on := 1, ground := Ground.data }], guard := none }) (v := ?v3) rfl (by kernel_rfl) (by kernel_rfl) (by kernel_rfl) (fun _ _ _ h => h) (Or.inl ⟨by rfl, ?hy3⟩) hHeld ?rest3
  case hy3 => (intro w' hSw; (try dsimp only at hSw); go_simp; (try with_reducible rfl))
  try simp only [Act.put, List.setIfInBounds_toArray, List.set_cons_zero, List.set_cons_succ]
  refine wpAnyH_take (i := 3) (oi := { dst := some 17, op := Op.load 33 (Operand.tmp 16), type := 33, pos := "law.go:51", after := #[{ on := 2, ground := Ground.data }], guard := none }) (v := ?v4) rfl (by kernel_rfl) (by kernel_rfl) (by kernel_rfl) (fun _ _ _ h => h) (Or.inl ⟨by rfl, ?hy4⟩) hHeld ?rest4
  case hy4 => (intro w' hSw; (try dsimp only at hSw); go_simp; (try with_reducible rfl))
  try simp only [Act.put, List.setIfInBounds_toArray, List.set_cons_zero, List.set_cons_succ]
  refine wpAnyH_take (i := 4) (oi := { dst := some 18, op := Op.move (Operand.tmp 2), type := 3, pos := "law.go:51", after := #[], guard := none }) (v := ?v5) rfl (by kernel_rfl) (by kernel_rfl) (by kernel_rfl) (fun _ _ _ h => h) (Or.inl ⟨by rfl, ?hy5⟩) hHeld ?rest5
  case hy5 => (intro w' hSw; (try dsimp only at hSw); go_simp; (try with_reducible rfl))
  try simp only [Act.put, List.setIfInBounds_toArray, List.set_cons_zero, List.set_cons_succ]
  refine wpAnyH_take (i := 5) (oi := { dst := some 19, op := Op.indexAddr 33 (Operand.tmp 17) (Operand.tmp 18), type := 0, pos := "law.go:51", after := #[{ on := 3, ground := Ground.data }, { on := 4, ground := Ground.data }], guard := none }) (v := .pointer (some ⟨t, k, none⟩)) rfl (by kernel_rfl) (by kernel_rfl) (by kernel_rfl) (fun _ _ _ h => h) (Or.inl ⟨by rfl, ?hyV⟩) hHeld ?_
  case hyV => (intro w' hSw; (try dsimp only at hSw); go_simp; (try rw [if_pos ⟨by omega, hkl⟩]); (try simp only [Int.toNat_natCast, Nat.mul_one, Nat.zero_add]); (try rfl))
  try simp only [Act.put, List.setIfInBounds_toArray, List.set_cons_zero, List.set_cons_succ]
  refine wpAnyH_take (i := 6) (oi := { dst := some 20, op := Op.load 46 (Operand.tmp 19), type := 46, pos := "law.go:51", after := #[{ on := 5, ground := Ground.data }], guard := none }) (v := ?v6) rfl (by kernel_rfl) (by kernel_rfl) (by kernel_rfl) (fun _ _ _ h => h) (Or.inl ⟨by rfl, ?hy6⟩) hHeld ?rest6
  case hy6 => (intro w' hSw; (try dsimp only at hSw); go_simp; (try with_reducible rfl))
  try simp only [Act.put, List.setIfInBounds_toArray, List.set_cons_zero, List.set_cons_succ]
  refine wpAnyH_take (i := 7) (oi := { dst := some 21, op := Op.move (Operand.tmp 0), type := 25, pos := "law.go:51", after := #[{ on := 19, ground := Ground.gcOnly Departure.lateStores }], guard := none }) (v := ?v7) rfl (by kernel_rfl) (by kernel_rfl) (by kernel_rfl) (fun _ _ _ h => h) (Or.inl ⟨by rfl, ?hy7⟩) hHeld ?rest7
  case hy7 => (intro w' hSw; (try dsimp only at hSw); go_simp; (try with_reducible rfl))
  try simp only [Act.put, List.setIfInBounds_toArray, List.set_cons_zero, List.set_cons_succ]
  refine wpAnyH_take (i := 8) (oi := { dst := some 22, op := Op.nilCheck (Operand.tmp 21), type := 0, pos := "law.go:51", after := #[{ on := 7, ground := Ground.data }, { on := 19, ground := Ground.gcOnly Departure.lateStores }], guard := none }) (v := ?v8) rfl (by kernel_rfl) (by kernel_rfl) (by kernel_rfl) (fun _ _ _ h => h) (Or.inl ⟨by rfl, ?hy8⟩) hHeld ?rest8
  case hy8 => (intro w' hSw; (try dsimp only at hSw); go_simp; (try with_reducible rfl))
  try simp only [Act.put, List.setIfInBounds_toArray, List.set_cons_zero, List.set_cons_succ]
  refine wpAnyH_take (i := 9) (oi := { dst := some 23, op := Op.fieldAddr 36 (Operand.tmp 22) 2, type := 0, pos := "law.go:51", after := #[{ on := 8, ground := Ground.data }, { on := 19, ground := Ground.gcOnly Departure.lateStores }], guard := none }) (v := ?v9) rfl (by kernel_rfl) (by kernel_rfl) (by kernel_rfl) (fun _ _ _ h => h) (Or.inl ⟨by rfl, ?hy9⟩) hHeld ?rest9
  case hy9 => (intro w' hSw; (try dsimp only at hSw); go_simp; (try with_reducible rfl))
  try simp only [Act.put, List.setIfInBounds_toArray, List.set_cons_zero, List.set_cons_succ]
  refine wpAnyH_take (i := 10) (oi := { dst := some 24, op := Op.load 34 (Operand.tmp 23), type := 34, pos := "law.go:51", after := #[{ on := 9, ground := Ground.data }, { on := 19, ground := Ground.gcOnly Departure.lateStores }], guard := none }) (v := ?v10) rfl (by kernel_rfl) (by kernel_rfl) (by kernel_rfl) (fun _ _ _ h => h) (Or.inl ⟨by rfl, ?hy10⟩) hHeld ?rest10
  case hy10 => (intro w' hSw; (try dsimp only at hSw); go_simp; (try with_reducible rfl))
  try simp only [Act.put, List.setIfInBounds_toArray, List.set_cons_zero, List.set_cons_succ]
  refine wpAnyH_take (i := 11) (oi := { dst := some 25, op := Op.move (Operand.tmp 2), type := 3, pos := "law.go:51", after := #[{ on := 19, ground := Ground.gcOnly Departure.lateStores }], guard := none }) (v := ?v11) rfl (by kernel_rfl) (by kernel_rfl) (by kernel_rfl) (fun _ _ _ h => h) (Or.inl ⟨by rfl, ?hy11⟩) hHeld ?rest11
  case hy11 => (intro w' hSw; (try dsimp only at hSw); go_simp; (try with_reducible rfl))
  try simp only [Act.put, List.setIfInBounds_toArray, List.set_cons_zero, List.set_cons_succ]
  refine wpAnyH_take (i := 12) (oi := { dst := some 26, op := Op.indexAddr 34 (Operand.tmp 24) (Operand.tmp 25), type := 0, pos := "law.go:51", after := #[{ on := 10, ground := Ground.data }, { on := 11, ground := Ground.data }, { on := 19, ground := Ground.gcOnly Departure.lateStores }], guard := none }) (v := .pointer (some ⟨t2, k * 261, none⟩)) rfl (by kernel_rfl) (by kernel_rfl) (by kernel_rfl) (fun _ _ _ h => h) (Or.inl ⟨by rfl, ?hyV⟩) hHeld ?_
  case hyV => (intro w' hSw; (try dsimp only at hSw); go_simp; (try rw [if_pos ⟨by omega, hkl⟩]); (try simp only [Int.toNat_natCast, Nat.zero_add]); (try rfl))
  try simp only [Act.put, List.setIfInBounds_toArray, List.set_cons_zero, List.set_cons_succ]
  refine wpAnyH_take (i := 13) (oi := { dst := some 27, op := Op.load 59 (Operand.tmp 26), type := 59, pos := "law.go:51", after := #[{ on := 12, ground := Ground.data }, { on := 19, ground := Ground.gcOnly Departure.lateStores }], guard := none }) (v := .agg L.toArray) rfl (by kernel_rfl) (by kernel_rfl) (by kernel_rfl) (fun _ _ _ h => h) (yieldsIf_load_mid (by rfl) 59 (.tmp 26) rfl t2 (k * 261) (by rfl) L _ (fun _ h => h.2.2.2.1) Tryz.underlying59 rfl HLn.out.sz) hHeld ?_
  try simp only [Act.put, List.setIfInBounds_toArray, List.set_cons_zero, List.set_cons_succ]
  refine wpAnyH_take (i := 14) (oi := { dst := some 28, op := Op.fieldAddr 41 (Operand.tmp 4) 3, type := 0, pos := "law.go:51", after := #[{ on := 20, ground := Ground.gcOnly Departure.lateStores }], guard := none }) (v := ?v12) rfl (by kernel_rfl) (by kernel_rfl) (by kernel_rfl) (fun _ _ _ h => h) (Or.inl ⟨by rfl, ?hy12⟩) hHeld ?rest12
  case hy12 => (intro w' hSw; (try dsimp only at hSw); go_simp; (try with_reducible rfl))
  try simp only [Act.put, List.setIfInBounds_toArray, List.set_cons_zero, List.set_cons_succ]
  refine wpAnyH_take (i := 15) (oi := { dst := some 29, op := Op.load 5 (Operand.tmp 28), type := 5, pos := "law.go:51", after := #[{ on := 14, ground := Ground.data }, { on := 20, ground := Ground.gcOnly Departure.lateStores }], guard := none }) (v := ?v13) rfl (by kernel_rfl) (by kernel_rfl) (by kernel_rfl) (fun _ _ _ h => h) (Or.inl ⟨by rfl, ?hy13⟩) hHeld ?rest13
  case hy13 => (intro w' hSw; (try dsimp only at hSw); go_simp; (try with_reducible rfl))
  try simp only [Act.put, List.setIfInBounds_toArray, List.set_cons_zero, List.set_cons_succ]
  refine wpAnyH_take (i := 16) (oi := { dst := some 30, op := Op.binOp BinOp.rem 5 (Operand.tmp 29) (Operand.const (Value.int IntKind.u8 4)) 5, type := 5, pos := "law.go:51", after := #[{ on := 15, ground := Ground.data }, { on := 20, ground := Ground.gcOnly Departure.lateStores }], guard := none }) (v := .int .u8 q) rfl (by kernel_rfl) (by kernel_rfl) (by kernel_rfl) (fun _ _ _ h => h) (Or.inl ⟨by rfl, ?hyV⟩) hHeld ?_
  case hyV => (intro w' hSw; (try dsimp only at hSw); go_simp; (try rw [hq4]); (try rw [hq]); (try rfl))
  try simp only [Act.put, List.setIfInBounds_toArray, List.set_cons_zero, List.set_cons_succ]
  refine wpAnyH_take (i := 17) (oi := { dst := some 31, op := Op.convert 5 39 (Operand.tmp 30), type := 39, pos := "law.go:51", after := #[{ on := 16, ground := Ground.data }, { on := 20, ground := Ground.gcOnly Departure.lateStores }], guard := none }) (v := .int .u64 q) rfl (by kernel_rfl) (by kernel_rfl) (by kernel_rfl) (fun _ _ _ h => h) (Or.inl ⟨by rfl, ?hyV⟩) hHeld ?_
  case hyV => (intro w' hSw; (try dsimp only at hSw); go_simp; (try rw [ewq]); (try rfl))
  try simp only [Act.put, List.setIfInBounds_toArray, List.set_cons_zero, List.set_cons_succ]
  refine wpAnyH_ready (rs := [18]) (by kernel_rfl) (by simp) (AllReadyH.cons (o := { dst := some 8, op := Op.alloc 59, type := 0, pos := "law.go:51", after := #[], guard := none }) rfl (fun K hK => ?_) AllReadyH.nil)
  rw [if_pos (by rfl)]
  refine wp_alloc_z 59 rfl zs HZ.out ?_
  refine hK.out _ _ (HS1.out _ ((Below.refl _ _).drew.alloc (Nat.le_refl _) _)) (fun hHeld' => ?_)
  clear hK K hHeld
  have hHeld := hHeld'
  clear hHeld'
  try simp only [Act.put, List.setIfInBounds_toArray, List.set_cons_zero, List.set_cons_succ]
  refine wpAnyH_take (i := 19) (oi := { dst := some 7, op := Op.assign (Operand.tmp 20), type := 46, pos := "law.go:51", after := #[{ on := 6, ground := Ground.data }, { on := 0, ground := Ground.phase }, { on := 1, ground := Ground.phase }, { on := 2, ground := Ground.phase }, { on := 3, ground := Ground.phase }, { on := 4, ground := Ground.phase }, { on := 5, ground := Ground.phase }, { on := 6, ground := Ground.phase }, { on := 7, ground := Ground.textOnly Departure.lateStores }, { on := 8, ground := Ground.textOnly Departure.lateStores }, { on := 9, ground := Ground.textOnly Departure.lateStores }, { on := 10, ground := Ground.textOnly Departure.lateStores }, { on := 11, ground := Ground.textOnly Departure.lateStores }, { on := 12, ground := Ground.textOnly Departure.lateStores }, { on := 13, ground := Ground.textOnly Departure.lateStores }, { on := 14, ground := Ground.textOnly Departure.lateStores }, { on := 15, ground := Ground.textOnly Departure.lateStores }, { on := 16, ground := Ground.textOnly Departure.lateStores }, { on := 17, ground := Ground.textOnly Departure.lateStores }, { on := 18, ground := Ground.phase }], guard := none }) (v := ?v14) rfl (by kernel_rfl) (by kernel_rfl) (by kernel_rfl) (fun _ _ _ h => h) (Or.inl ⟨by rfl, ?hy14⟩) hHeld ?rest14
  case hy14 => (intro w' hSw; (try dsimp only at hSw); go_simp; (try with_reducible rfl))
  try simp only [Act.put, List.setIfInBounds_toArray, List.set_cons_zero, List.set_cons_succ]
  refine wpAnyH_ready (rs := [20]) (by kernel_rfl) (by simp) (AllReadyH.cons (o := { dst := none, op := Op.store 59 (Operand.tmp 8) (Operand.tmp 27), type := 0, pos := "law.go:51", after := #[{ on := 18, ground := Ground.data }, { on := 13, ground := Ground.data }, { on := 19, ground := Ground.chain }, { on := 0, ground := Ground.phase }, { on := 1, ground := Ground.phase }, { on := 2, ground := Ground.phase }, { on := 3, ground := Ground.phase }, { on := 4, ground := Ground.phase }, { on := 5, ground := Ground.phase }, { on := 6, ground := Ground.phase }, { on := 7, ground := Ground.phase }, { on := 8, ground := Ground.phase }, { on := 9, ground := Ground.phase }, { on := 10, ground := Ground.phase }, { on := 11, ground := Ground.phase }, { on := 12, ground := Ground.phase }, { on := 13, ground := Ground.phase }, { on := 14, ground := Ground.textOnly Departure.lateStores }, { on := 15, ground := Ground.textOnly Departure.lateStores }, { on := 16, ground := Ground.textOnly Departure.lateStores }, { on := 17, ground := Ground.textOnly Departure.lateStores }, { on := 18, ground := Ground.phase }, { on := 19, ground := Ground.phase }], guard := none }) rfl (fun K hK => ?_) AllReadyH.nil)
  rw [if_pos (by rfl)]
  refine wp_store_mid 59 (.tmp 8) (.tmp 27) rfl (w.heap.size + 1) 0 L.toArray (by rw [← SA.out]; rfl) (by rfl) HTh.out HLn.out.szA HLn.out.all1 ?_
  refine hK.out _ _ (HS1.out _ HB1.out) (fun hHeld' => ?_)
  clear hK K hHeld
  have hHeld := hHeld'
  clear hHeld'
  try simp only [Act.put, List.setIfInBounds_toArray, List.set_cons_zero, List.set_cons_succ]
  refine wpAnyH_take (i := 21) (oi := { dst := some 9, op := Op.assign (Operand.tmp 31), type := 39, pos := "law.go:51", after := #[{ on := 17, ground := Ground.data }, { on := 20, ground := Ground.chain }, { on := 0, ground := Ground.phase }, { on := 1, ground := Ground.phase }, { on := 2, ground := Ground.phase }, { on := 3, ground := Ground.phase }, { on := 4, ground := Ground.phase }, { on := 5, ground := Ground.phase }, { on := 6, ground := Ground.phase }, { on := 7, ground := Ground.phase }, { on := 8, ground := Ground.phase }, { on := 9, ground := Ground.phase }, { on := 10, ground := Ground.phase }, { on := 11, ground := Ground.phase }, { on := 12, ground := Ground.phase }, { on := 13, ground := Ground.phase }, { on := 14, ground := Ground.phase }, { on := 15, ground := Ground.phase }, { on := 16, ground := Ground.phase }, { on := 17, ground := Ground.phase }, { on := 18, ground := Ground.phase }, { on := 19, ground := Ground.phase }, { on := 20, ground := Ground.phase }], guard := none }) (v := ?v15) rfl (by kernel_rfl) (by kernel_rfl) (by kernel_rfl) (fun _ _ _ h => h) (Or.inl ⟨by rfl, ?hy15⟩) hHeld ?rest15
  case hy15 => (intro w' hSw; (try dsimp only at hSw); go_simp; (try with_reducible rfl))
  try simp only [Act.put, List.setIfInBounds_toArray, List.set_cons_zero, List.set_cons_succ]
  refine wpAnyH_done (by kernel_rfl) ?_ _
  go_upto_region 2 with fail
  first
    | rw [HWd.out]
    | rw [show (Wa.alloc (.cells zs 59)).drew.setCells (w.heap.size + 1) 0 L = W1 from HWd.out]
  clear HS1 HTh HB1 HWd HZ SA ewq
  go_upto_region 6 with fail
  try rw [hd99]
  try rw [hd9]
  clear hq4 hd99 hq
  go_upto_region 16 with fail
  have hln : (0 : Int) ≤ (l.length : Int) ∧ (l.length : Int) ≤ 1000 := by omega
  have c1 : W1.cell? ⟨X, 1, none⟩ = some (.slice (some ⟨t, 0, none⟩) l.length cap) := by have := HST.out.wb.cL; rw [HV1.out] at this; exact this
  have ewj : IntKind.i64.wrap j = j := by rw [IntKind.wrap_i64]; omega
  have ewl : IntKind.i64.wrap ((l.length : Int) + 1) = (l.length : Int) + 1 := by rw [IntKind.wrap_i64]; omega
  have nzl : ¬ ((l.length : Int) + 1 = 0) := by omega
  have hjt : j.tmod ((l.length : Int) + 1) = ((J : Int) + 1) := by rw [Int.tmod_eq_emod_of_nonneg hj0.1]; exact hJ
  have ewJ : IntKind.i64.wrap ((J : Int) + 1) = ((J : Int) + 1) := by rw [IntKind.wrap_i64]; omega
  go_quiet (fail)
  try rw [hjt]
  have HST2 := Lib.hid (HST.out.on (Still.below (Still.drewN W1 nq) _))
  obtain ⟨U, hU⟩ : ∃ U, W1.drewN nq = U := ⟨_, rfl⟩
  rw [hU] at HST2
  rw [hU]
  clear hU c1 hjt HST e0 e2 e4 e5 e6 ewj ewl nzl ewJ
  have HST := HST2
  have e0 : U.cell? ⟨w.heap.size, 0, none⟩ = some (.int .u8 d) := HST.out.ls.cell 0
  have e2 : U.cell? ⟨w.heap.size, 2, none⟩ = some (.int .u16 j) := HST.out.ls.cell 2
  have e4 : U.cell? ⟨w.heap.size, 4, none⟩ = some (.int .u8 (b.toNat : Int)) := HST.out.ls.cell 4
  have e5 : U.cell? ⟨w.heap.size, 5, none⟩ = some (.slice A n c) := HST.out.ls.cell 5
  have e6 : U.cell? ⟨w.heap.size, 6, none⟩ = some (.int .u64 v) := HST.out.ls.cell 6
  clear HST2
  obtain ⟨⟨gj, xj⟩, hjj⟩ : ∃ p, l[J]? = some p := ⟨_, List.getElem?_eq_getElem hJl⟩
  have cJ : U.cell? ⟨t, J, none⟩ = some (ptrN gj) := by
    obtain ⟨t', cap', hv', c1'⟩ := HST.out.wb.ptr hjj
    rw [HV1.out] at hv'
    injection hv' with e1 e2 e3
    injection e1 with e1
    injection e1 with e1
    rw [e1]; exact c1'
  have cX : U.cell? ⟨X, 1, none⟩ = some (.slice (some ⟨t, 0, none⟩) l.length cap) := by have := HST.out.wb.cL; rw [HV1.out] at this; exact this
  have ewJ : IntKind.i64.wrap ((J : Int) + 1 - 1) = (J : Int) := by rw [IntKind.wrap_i64]; omega
  have hJln : (J : Int) < (l.length : Int) := by omega
  have hJp : (0 : Int) < (J : Int) + 1 := by omega
  have e9 : ((J + 1 : Nat) : Int) = (J : Int) + 1 := by omega
  have hkpe : kp (l.map Prod.fst) ((J + 1 : Nat) : Int) = some ⟨gj, 0, none⟩ := by
    unfold kp
    rw [if_neg (by omega), show (((J + 1 : Nat) : Int) - 1).toNat = J by omega, List.getElem?_map, hjj]
    rfl
  obtain ⟨L', hd', hc'⟩ := doc_setkid HHd.out HUp.out q b (J + 1) (by rw [List.length_map]; exact hJl) (by rw [List.length_map]; exact hf)
  have C1 := Lib.hid (HST.out.nn.setkid HHk.out hjj HST.out.wb.below.size HST.out.hN q b _ rfl)
  rw [hkpe] at hd' hc'
  rw [e9] at hc'
  have HC' := Lib.hid hc'
  have HD' := Lib.hid hd'
  have HLn2 := Lib.hid hd'.dn
  clear hc' hd' hkpe hJ e9
  obtain ⟨er, her⟩ : ∃ er, setKN x q (some ⟨gj, 0, none⟩) = er := ⟨_, rfl⟩
  rw [her] at C1 HC'
  clear her
  go_wp2_with fail
  (with_reducible refine C1.out.mono ?_)
  rintro e w2 ⟨rfl, nn, kk⟩
  have S2 := Lib.hid (HST.out.node nn kk)
  have HR2 := Lib.hid (Lst.all S2.out.lg)
  have f4 : w2.cell? ⟨w.heap.size, 4, none⟩ = some (.int .u8 (b.toNat : Int)) := S2.out.ls.cell 4
  clear nn kk C1 HST e0 e2 e4 e5 e6
  go_wp2_with (refine wpList_load_mid rfl 59 (.tmp 8) rfl (w.heap.size + 1) 0 rfl L _ HR2.out Tryz.underlying59 rfl HLn.out.sz ?_)
  (with_reducible refine (HC'.out _).mono ?_)
  rintro e w3 ⟨rfl, h3⟩
  obtain ⟨s4, th4⟩ := (S2.out.on h3).lay HLn.out.len HLn2.out
  obtain ⟨w4, hw4⟩ : ∃ w4, w3.setCells (w.heap.size + 1) 0 L'.toArray.toList = w4 := ⟨_, rfl⟩
  rw [hw4] at s4
  have HT3 := Lib.hid th4
  have HW4 := Lib.hid hw4
  have S4 := Lib.hid s4
  clear hw4 s4 th4 h3 S2 HR2 HC'
  have hwb : Wb fb w0 w4.drew X cnt md (l.set k (g, nSetKid x q b (some ⟨gj, 0, none⟩))) l ds vl (.slice (some ⟨t2, 0, none⟩) ds.length cap2) := by have := S4.out.wb.on (Below.refl _ _).drew; rw [HV2.out] at this; rw [HHD.out.1]; exact this
  have hkd : k < ds.length := by rw [HHD.out.1]; omega
  obtain ⟨m1, m2⟩ := hwb.put hkd HLn2.out
  have HTh22 := Lib.hid (show w4.drew.there t2 (k * 261) L'.toArray.size from m2)
  have HS22 := Lib.hid (show w4.drew.cell? ⟨X, 2, none⟩ = some (.slice (some ⟨t2, 0, none⟩) l.length cap2) ∧ w4.drew.rangeAt (w.heap.size + 1) 0 L' from ⟨by have := hwb.cW; rw [HHD.out.1] at this; exact this, Lst.all (show Lst w4.drew _ _ from S4.out.lg)⟩)
  have hne2 : ¬ t2 = w.heap.size + 1 := fun e => S4.out.ne.1 (.inr (.inr (.inl (by rw [HV2.out]; rw [← e]; rfl))))
  have HS23 := Lib.hid (show (w4.drew.setCells t2 (k * 261) L'.toArray.toList).cell? ⟨X, 2, none⟩ = some (.slice (some ⟨t2, 0, none⟩) l.length cap2) ∧ (w4.drew.setCells t2 (k * 261) L'.toArray.toList).rangeAt (w.heap.size + 1) 0 L' from
    ⟨by have := m1.cW; rw [HHD.out.1] at this; exact this, Lst.all (show Lst (w4.drew.setCells t2 (k * 261) L'.toArray.toList) _ _ from (Kept.setCells (· = t2) w4.drew t2 (k * 261) L'.toArray.toList rfl).blk (show Lst w4.drew _ _ from S4.out.lg) (fun e => hne2 e.symm))⟩)
  have HE := Lib.hid (show ∃ l' ds', Wb fb w0 (w4.drew.setCells t2 (k * 261) L'.toArray.toList) X cnt md l' l' ds' vl vw ∧ Docs w0 l' ds' ∧ l'.length = l.length from by
    refine ⟨l.set k (g, nSetKid x q b (some ⟨gj, 0, none⟩)), ds.set k L', ?_, HHD.out.set_ HHk.out HD'.out, by simp⟩
    have z := m1.relist (x' := nSetKid x q b (some ⟨gj, 0, none⟩)) HHk.out
    rw [HHD.out.1, ← HV2.out] at z
    exact z)
  clear hwb m1 m2 hkd
  go_wp2_with (refine wpList_store_mid rfl 59 (.tmp 8) (.tmp 124) rfl (w.heap.size + 1) 0 L'.toArray rfl rfl HT3.out HLn2.out.szA HLn2.out.all1 ?_; rw [HW4.out])
  refine wp_region_held_drew (S := (fun w' => w'.cell? ⟨X, 2, none⟩ = some (.slice (some ⟨t2, 0, none⟩) l.length cap2) ∧ w'.rangeAt (w.heap.size + 1) 0 L')) (by kernel_rfl) HS22.out (fun hHeld => ?_)
  refine wpAnyH_take (i := 0) (oi := { dst := some 126, op := Op.move (Operand.tmp 0), type := 25, pos := "law.go:75", after := #[], guard := none }) (v := ?v16) rfl (by kernel_rfl) (by kernel_rfl) (by kernel_rfl) (fun _ _ _ h => h) (Or.inl ⟨by rfl, ?hy16⟩) hHeld ?rest16
  case hy16 => (intro w' hSw; (try dsimp only at hSw); go_simp; (try with_reducible rfl))
  try simp only [Act.put, List.setIfInBounds_toArray, List.set_cons_zero, List.set_cons_succ]
  refine wpAnyH_take (i := 1) (oi := { dst := some 127, op := Op.nilCheck (Operand.tmp 126), type := 0, pos := "law.go:75", after := #[{ on := 0, ground := Ground.data }], guard := none }) (v := ?v17) rfl (by kernel_rfl) (by kernel_rfl) (by kernel_rfl) (fun _ _ _ h => h) (Or.inl ⟨by rfl, ?hy17⟩) hHeld ?rest17
  case hy17 => (intro w' hSw; (try dsimp only at hSw); go_simp; (try with_reducible rfl))
  try simp only [Act.put, List.setIfInBounds_toArray, List.set_cons_zero, List.set_cons_succ]
  refine wpAnyH_take (i := 2) (oi := { dst := some 128, op := Op.fieldAddr 36 (Operand.tmp 127) 2, type := 0, pos := "law.go:75", after := #[{ on := 1, ground := Ground.data }], guard := none }) (v := ?v18) rfl (by kernel_rfl) (by kernel_rfl) (by kernel_rfl) (fun _ _ _ h => h) (Or.inl ⟨by rfl, ?hy18⟩) hHeld ?rest18
  case hy18 => (intro w' hSw; (try dsimp only at hSw); go_simp; (try with_reducible rfl))
  try simp only [Act.put, List.setIfInBounds_toArray, List.set_cons_zero, List.set_cons_succ]
  refine wpAnyH_take (i := 3) (oi := { dst := some 129, op := Op.load 34 (Operand.tmp 128), type := 34, pos := "law.go:75", after := #[{ on := 2, ground := Ground.data }], guard := none }) (v := ?v19) rfl (by kernel_rfl) (by kernel_rfl) (by kernel_rfl) (fun _ _ _ h => h) (Or.inl ⟨by rfl, ?hy19⟩) hHeld ?rest19
  case hy19 => (intro w' hSw; (try dsimp only at hSw); go_simp; (try with_reducible rfl))
  try simp only [Act.put, List.setIfInBounds_toArray, List.set_cons_zero, List.set_cons_succ]
  refine wpAnyH_take (i := 4) (oi := { dst := some 130, op := Op.move (Operand.tmp 2), type := 3, pos := "law.go:75", after := #[], guard := none }) (v := ?v20) rfl (by kernel_rfl) (by kernel_rfl) (by kernel_rfl) (fun _ _ _ h => h) (Or.inl ⟨by rfl, ?hy20⟩) hHeld ?rest20
  case hy20 => (intro w' hSw; (try dsimp only at hSw); go_simp; (try with_reducible rfl))
  try simp only [Act.put, List.setIfInBounds_toArray, List.set_cons_zero, List.set_cons_succ]
  refine wpAnyH_take (i := 5) (oi := { dst := some 131, op := Op.load 59 (Operand.tmp 8), type := 59, pos := "law.go:75", after := #[], guard := none }) (v := .agg L'.toArray) rfl (by kernel_rfl) (by kernel_rfl) (by kernel_rfl) (fun _ _ _ h => h) (yieldsIf_load_mid (by rfl) 59 (.tmp 8) rfl (w.heap.size + 1) 0 (by rfl) L' _ (fun _ h => h.2) Tryz.underlying59 rfl HLn2.out.sz) hHeld ?_
  try simp only [Act.put, List.setIfInBounds_toArray, List.set_cons_zero, List.set_cons_succ]
  refine wpAnyH_take (i := 6) (oi := { dst := some 132, op := Op.indexAddr 34 (Operand.tmp 129) (Operand.tmp 130), type := 0, pos := "law.go:75", after := #[{ on := 3, ground := Ground.data }, { on := 4, ground := Ground.data }, { on := 0, ground := Ground.phase }, { on := 1, ground := Ground.phase }, { on := 2, ground := Ground.phase }, { on := 3, ground := Ground.phase }, { on := 4, ground := Ground.phase }, { on := 5, ground := Ground.phase }], guard := none }) (v := .pointer (some ⟨t2, k * 261, none⟩)) rfl (by kernel_rfl) (by kernel_rfl) (by kernel_rfl) (fun _ _ _ h => h) (Or.inl ⟨by rfl, ?hyV⟩) hHeld ?_
  case hyV => (intro w' hSw; (try dsimp only at hSw); go_simp; (try rw [if_pos ⟨by omega, hkl⟩]); (try simp only [Int.toNat_natCast, Nat.zero_add]); (try rfl))
  try simp only [Act.put, List.setIfInBounds_toArray, List.set_cons_zero, List.set_cons_succ]
  refine wpAnyH_ready (rs := [7]) (by kernel_rfl) (by simp) (AllReadyH.cons (o := { dst := none, op := Op.store 59 (Operand.tmp 132) (Operand.tmp 131), type := 0, pos := "law.go:75", after := #[{ on := 6, ground := Ground.data }, { on := 5, ground := Ground.data }, { on := 0, ground := Ground.phase }, { on := 1, ground := Ground.phase }, { on := 2, ground := Ground.phase }, { on := 3, ground := Ground.phase }, { on := 4, ground := Ground.phase }, { on := 5, ground := Ground.phase }], guard := none }) rfl (fun K hK => ?_) AllReadyH.nil)
  rw [if_pos (by rfl)]
  refine wp_store_mid 59 (.tmp 132) (.tmp 131) rfl t2 (k * 261) L'.toArray (by rfl) (by rfl) HTh22.out HLn2.out.szA HLn2.out.all1 ?_
  refine hK.out _ _ HS23.out (fun hHeld' => ?_)
  clear hK K hHeld
  have hHeld := hHeld'
  clear hHeld'
  try simp only [Act.put, List.setIfInBounds_toArray, List.set_cons_zero, List.set_cons_succ]
  refine wpAnyH_done (by kernel_rfl) ?_ _
  go_wp2
  go_ret
  exact ⟨by simp, HE.out⟩

set_option maxRecDepth 100000 in
theorem wwrite_any {fb : FB} {w0 w : World} {X : Nat} {cnt md : Int} {l : List (Nat × Nd)} {ds : List (List Value)} {vl vw : Value} (h : Wb fb w0 w X cnt md l l ds vl vw) (hD : Docs w0 l ds) {k g : Nat} {x : Nd} (hk : l[k]? = some (g, x)) (hf : l.length ≤ 1000)
    (d i j o v : Int) (b : UInt8) (A : Option Addr) (n c : Nat) (p : List UInt8) (hB : ∀ V, Below w0.heap.size w0 V → Byt V w0.heap.size A n p) (hn : n ≤ 140737488351232) (ho : 0 ≤ o ∧ o ≤ 255) (hd0 : 0 ≤ d) (hj0 : 0 ≤ j ∧ j ≤ 65535) :
    Calls Tryz.prog 21 #[ptrN X, .agg #[.int .u8 d, .int .u16 i, .int .u16 j, .int .u8 o, .int .u8 (b.toNat : Int), .slice A n c, .int .u64 v], .int .i64 (k : Int)] w fun e w' =>
      e = .returned (.bool true) ∧ ∃ l' ds', Wb fb w0 w' X cnt md l' l' ds' vl vw ∧ Docs w0 l' ds' ∧ l'.length = l.length := by
  by_cases h4 : d % 9 = 4
  · exact wwrite_part h hD hk hf d i j o v b A n c p hB hn ho hd0 h4
  by_cases h5 : d % 9 = 5
  · exact wwrite_val h hD hk hf d i j o v b A n c p hB hn ho hd0 h5
  by_cases h6 : d % 9 = 6
  · exact wwrite_drop h hD hk hf d i j o v b A n c p hB hn ho hd0 h6
  by_cases h7 : d % 9 = 7
  · by_cases hJ : j % ((l.length : Int) + 1) = 0
    · exact wwrite_none h hD hk hf d i j o v b A n c p hB hn ho hd0 hj0 h7 hJ
    · have q1 : 0 ≤ j % ((l.length : Int) + 1) := Int.emod_nonneg _ (by omega)
      have q2 : j % ((l.length : Int) + 1) < (l.length : Int) + 1 := Int.emod_lt_of_pos _ (by omega)
      exact wwrite_some h hD hk hf d i j o v b A n c p hB hn ho hd0 hj0 h7 ((j % ((l.length : Int) + 1)).toNat - 1) (by omega) (by omega)
  · exact wwrite_kid h hD hk hf d i j o v b A n c p hB hn ho hd0 (d % 9) rfl h4 h5 h6 h7
end Go.Proofs.YtgelmhldicmmdaaGreat
