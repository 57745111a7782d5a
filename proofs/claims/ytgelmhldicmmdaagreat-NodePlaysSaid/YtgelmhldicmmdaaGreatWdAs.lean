/-
  Layer 12's own question, whether the node at a place is the document's, from a byte on: yes, if it is.
-/
import Derived.Test.YtgelmhldicmmdaaGreatWdMem
import Derived.Test.YtgelmhldicmmdaaGreatR1
namespace Go.Proofs.YtgelmhldicmmdaaGreat
open Go.RowKit

/-- An alloc of a great type, where it comes up. -/
theorem wp_alloc_z {P : Program} {o : Oper} {a : Act} {w : World} {K : Act → World → Prop} {Q : Exit → Act → World → Prop} (ty : TypeId) (ho : o.op = .alloc ty) (z : Array Value)
    (hz : (P.info? ty).map (·.zero) = some (some (.agg z))) (h : K (a.put o.dst (.pointer (some ⟨w.heap.size, 0, none⟩))) (w.alloc (.cells z ty))) : o.wp P a w K Q := by
  obtain ⟨i, hi, h0⟩ : ∃ i, P.info? ty = some i ∧ i.zero = some (.agg z) := by
    rcases hq : P.info? ty with _ | i
    · rw [hq] at hz; cases hz
    · rw [hq] at hz; exact ⟨i, rfl, by simpa using hz⟩
  unfold Oper.wp execOp
  simp [ho, Instr.alloc, zeroValue, typeInfo, hi, h0, newVar, newRow, newObj, Value.cells]
  exact h

set_option linter.unusedSimpArgs false in
set_option maxRecDepth 100000 in
set_option maxHeartbeats 4000000 in
theorem was_any {fb : FB} {w0 w : World} {X : Nat} {cnt md : Int} {lN l : List (Nat × Nd)} {ds : List (List Value)} {vl vw : Value} (h : Wb fb w0 w X cnt md lN l ds vl vw) {k g : Nat} {x : Nd} {L : List Value} (hk : l[k]? = some (g, x)) (hN : lN[k]? = some (g, x)) (hL : ds[k]? = some L) (hd : DocOf w0 (l.map Prod.fst) x L) (hf : l.length ≤ 1000) (hdl : ds.length = l.length)
    (a : Int) (ha : -9223372036854775808 ≤ a ∧ a ≤ 9223372036854775807) :
    Calls Tryz.prog 7 #[ptrN X, .int .i64 (k : Int), .int .i64 a] w fun e w' => e = .returned (.bool true) ∧ Below w.heap.size w w' := by
  obtain ⟨t, cap, hv, c1⟩ := h.ptr hk
  obtain ⟨t2, cap2, hv2, c2, hlen⟩ := h.dn hL
  rw [hdl] at hv2
  have hkl : (k : Int) < (l.length : Int) := by have := (List.getElem?_eq_some_iff.1 hk).1; omega
  have HLn := Lib.hid hd.dn
  have HW := Lib.hid (fun (V : World) (q : Below w.heap.size w V) => h.on q)
  have HS1 := Lib.hid (fun (V : World) (q : Below w.heap.size w V) => show V.cell? ⟨X, 1, none⟩ = some (.slice (some ⟨t, 0, none⟩) l.length cap) ∧ V.cell? ⟨t, k, none⟩ = some (ptrN g) ∧ V.cell? ⟨X, 2, none⟩ = some (.slice (some ⟨t2, 0, none⟩) l.length cap2) ∧ V.rangeAt t2 (k * 261) L from by
    have hV := h.on q
    obtain ⟨t', cap', hv', c1'⟩ := hV.ptr hk
    obtain ⟨t2', cap2', hv2', c2', _⟩ := hV.dn hL
    rw [hv] at hv'
    rw [hdl] at hv2'
    rw [hv2] at hv2'
    injection hv' with e1 e2 e3
    injection e1 with e1
    injection hv2' with f1 f2 f3
    injection f1 with f1
    injection e1 with e1
    injection f1 with f1
    subst e1 f1
    have d1 := hV.cL
    have d2 := hV.cW
    rw [hv] at d1
    rw [hv2] at d2
    exact ⟨d1, c1', d2, c2'⟩)
  obtain ⟨A, n, c, K, hLe, hB, hK⟩ := hd
  have hup : Up x.es := by obtain ⟨_, _, q⟩ := h.nd.at_ hN; exact q.up
  obtain ⟨bz, hbz⟩ : ∃ bz : UInt8, IntKind.u8.wrap a = (bz.toNat : Int) := ⟨UInt8.ofNat (a % 256).toNat, by rw [IntKind.wrap_u8, UInt8.toNat_ofNat']; omega⟩
  have blt2 : bz.toNat < 256 := bz.toNat_lt
  have hbi : (bz.toNat : Int) < 256 := by omega
  have ew64 : IntKind.i64.wrap (bz.toNat : Int) = (bz.toNat : Int) := by rw [IntKind.wrap_i64]; omega
  have HZ := Lib.hid dn_zero
  generalize hzs : zeroN.toArray = zs at HZ
  have HTh := Lib.hid (show (w.drew.alloc (.cells zs 59)).there w.heap.size 0 L.toArray.size from by
    rw [← hzs]; exact Lst.there (l := zeroN) (Blk.new w.drew _ _) (by rw [zeroN_length, List.size_toArray, hlen]; exact Nat.le_refl _))
  obtain ⟨W1, hW1⟩ : ∃ W1, (w.drew.alloc (.cells zs 59)).setCells w.heap.size 0 L.toArray.toList = W1 := ⟨_, rfl⟩
  have lW : Lst W1 w.heap.size L := by rw [← hW1, ← hzs]; exact dn_over (Blk.new w.drew _ _) zeroN_length HLn.out
  have bW : Below w.heap.size w W1 := by
    rw [← hW1]
    have q1 : Below w.heap.size w (w.drew.alloc (.cells zs 59)) := (Below.refl _ _).drew.alloc (Nat.le_refl _) _
    exact q1.trans ((Kept.setCells (· = w.heap.size) _ _ _ _ rfl).below (B := w.heap.size) q1.size (fun i e => by rw [e]; exact Nat.le_refl _))
  have HB1 := Lib.hid (show Below w.heap.size w ((w.drew.alloc (.cells zs 59)).setCells w.heap.size 0 L.toArray.toList) from by rw [hW1]; exact bW)
  -- what is asked of the node, of the document's, of the places
  have HR := Lib.hid (fun (V : World) (q : Below W1.heap.size W1 V) => show V.rangeAt w.heap.size 0 L from Lst.all (Blk.below lW q (Blk.lt lW)))
  have HC := Lib.hid (fun (V : World) (q : Below W1.heap.size W1 V) => show V.cell? ⟨w.heap.size, 0, none⟩ = some (.int .u64 x.ow) ∧ V.cell? ⟨w.heap.size, 2, none⟩ = some (.slice A n c) ∧ V.cell? ⟨w.heap.size, 3, none⟩ = some (.bool x.has) ∧ V.cell? ⟨w.heap.size, 4, none⟩ = some (.int .u64 x.val) ∧ V.cell? ⟨w.heap.size, 5 + bz.toNat, none⟩ = some (.int .i64 (K bz.toNat)) from by
    have hl := Blk.below lW q (Blk.lt lW)
    rw [hLe] at hl
    refine ⟨?_, ?_, ?_, ?_, ?_⟩
    · rw [Lst.at_ hl]; rfl
    · rw [Lst.at_ hl]; rfl
    · rw [Lst.at_ hl]; rfl
    · rw [Lst.at_ hl]; rfl
    · rw [Lst.at_ hl]; exact dnL_kid blt2)
  have HV := Lib.hid (fun (V : World) (q : Below W1.heap.size W1 V) => show Wb fb w0 V X cnt md lN l ds vl vw from h.on (bW.trans (q.mono bW.size)))
  have CV := Lib.hid (fun (V : World) (q : Below W1.heap.size W1 V) => (HV.out V q).nd.val_ hN)
  have CN := Lib.hid (fun (V : World) (q : Below W1.heap.size W1 V) => show Calls Tryz.prog 22 #[ptrN g, .int .i64 a] V fun e w' => e = .returned (.tuple #[.int .u8 (eb (nextE x.es a)), .pointer (ex (nextE x.es a))]) ∧ Still V w' from by obtain ⟨_, _, z⟩ := (HV.out V q).nd.at_ hN; exact nnext_any z a ha.1)
  have CP := Lib.hid (fun (V : World) (q : Below W1.heap.size W1 V) => show Calls Tryz.prog 23 #[ptrN g, .int .i64 a] V fun e w' => e = .returned (.tuple #[.int .u8 (eb (prevE x.es a)), .pointer (ex (prevE x.es a))]) ∧ Still V w' from by obtain ⟨_, _, z⟩ := (HV.out V q).nd.at_ hN; exact nprev_any z a ha.2)
  have CK := Lib.hid (fun (V : World) (q : Below W1.heap.size W1 V) => (HV.out V q).nd.kid_ hN bz _ rfl)
  have CO := Lib.hid (fun (V : World) (q : Below W1.heap.size W1 V) => (HV.out V q).nd.owner_ hN)
  have CA := Lib.hid (fun (V : World) (q : Below W1.heap.size W1 V) => (HV.out V q).nd.part_ hN)
  have CL := Lib.hid (fun (V : World) (q : Below W1.heap.size W1 V) => (HV.out V q).nd.len_ hN)
  have CC := Lib.hid (fun (V : World) (q : Below W1.heap.size W1 V) => show Calls Tryz.prog 16 #[ptrN g] V fun e w' => e = .returned (.int .i64 (if x.has then x.es.length + 1 else x.es.length)) ∧ Still V w' from by obtain ⟨_, _, z⟩ := (HV.out V q).nd.at_ hN; exact nocc_any z)
  have CI := Lib.hid (fun (V : World) (q : Below W1.heap.size W1 V) => show Calls Tryz.prog 15 #[ptrN g] V fun e w' => e = .returned (.int .i64 (if x.leaf then 1 else (kindN x.es.length : Int))) ∧ Still V w' from (HV.out V q).nd.kind_ hN)
  have RN := Lib.hid (fun V => rdnext_any (o := x.ow) (lf := x.leaf) (A := A) (n := n) (c := c) (hs := x.has) (v := x.val) hup hK.hk a V)
  have RP := Lib.hid (fun V => rdprev_any (o := x.ow) (lf := x.leaf) (A := A) (n := n) (c := c) (hs := x.has) (v := x.val) hup hK.hk a V)
  have RL := Lib.hid (fun V => rdlen_any (o := x.ow) (lf := x.leaf) (A := A) (n := n) (c := c) (hs := x.has) (v := x.val) hup hK.hk V)
  have RC := Lib.hid (fun V => rdocc_any (o := x.ow) (lf := x.leaf) (A := A) (n := n) (c := c) (hs := x.has) (v := x.val) hup hK.hk V)
  have RI := Lib.hid (fun V => rdkind_any (o := x.ow) (lf := x.leaf) (A := A) (n := n) (c := c) (hs := x.has) (v := x.val) hup hK.hk V)
  rw [← hLe] at RN RP RL RC RI
  have kd : ∀ o : Option Ent, (∀ e, o = some e → e ∈ x.es) → (∃ j : Nat, kq K o = (j : Int) ∧ j ≤ l.length) ∧ kp (l.map Prod.fst) (kq K o) = ex o := fun o ho => by
    cases o with
    | none => exact ⟨⟨0, rfl, Nat.zero_le _⟩, rfl⟩
    | some e =>
      have := hK.range (b := e.1.toNat) e.1.toNat_lt
      rw [List.length_map] at this
      refine ⟨this, ?_⟩
      show kp _ (K e.1.toNat) = e.2
      rw [hK.get e.1.toNat_lt]
      exact ((mem_look hup e).1 (ho e rfl)).2
  have k1 := kd (nextE x.es a) (fun e he => by
    unfold nextE at he; split at he; cases he; exact List.mem_of_getElem? he)
  have k2 := kd (prevE x.es a) (fun e he => by
    rw [prev_pv hup] at he; split at he; cases he; unfold pv at he; split at he; cases he; exact List.mem_of_getElem? he)
  have k3 : (∃ j : Nat, K bz.toNat = (j : Int) ∧ j ≤ l.length) ∧ kp (l.map Prod.fst) (K bz.toNat) = getE x.es bz.toNat := ⟨by have := hK.range blt2; rwa [List.length_map] at this, hK.get blt2⟩
  have CD := Lib.hid (fun (V : World) (q : Below W1.heap.size W1 V) => And.intro (wkid_any (HV.out V q) _ k1.1 hf) (And.intro (wkid_any (HV.out V q) _ k2.1 hf) (wkid_any (HV.out V q) _ k3.1 hf)))
  rw [k1.2, k2.2, k3.2] at CD
  have HBy := Lib.hid (fun (V : World) (q : Below W1.heap.size W1 V) => show Byt V V.heap.size A n x.part from (hB V (h.below.trans ((bW.trans (q.mono bW.size)).mono h.below.size))).more (Nat.le_trans h.below.size (Nat.le_trans bW.size q.size)))
  have HBW := Lib.hid bW
  have HW1 := Lib.hid hW1
  generalize (if x.has then (x.es.length : Int) + 1 else (x.es.length : Int)) = oc at CC RC
  generalize (if x.leaf then (1 : Int) else (kindN x.es.length : Int)) = kn at CI RI
  generalize (x.es.length : Int) = el at CL RL
  generalize eb (nextE x.es a) = nb at CN RN
  generalize ex (nextE x.es a) = nt at CN CD
  generalize kq K (nextE x.es a) = nk at RN CD
  generalize eb (prevE x.es a) = pb at CP RP
  generalize ex (prevE x.es a) = pt at CP CD
  generalize kq K (prevE x.es a) = pk at RP CD
  generalize getE x.es bz.toNat = bt at CK CD
  generalize K bz.toNat = bk at HC CD
  generalize x.ow = ow at HC CO
  generalize x.has = hs at HC CV
  generalize x.val = vv at HC CV
  generalize x.part = pl at CA HBy
  generalize l.length = ln at HS1 hkl
  have hn1 := neq_self nt
  have hn2 := neq_self pt
  have hn3 := neq_self bt
  clear kd k1 k2 k3 hLe hB hK hup hL hk hN hlen c1 c2 hv hv2 h lW bW hW1 hzs ha HW hf hdl
  go_enter Tryz.func7, Tryz.ntmps7
  go_wp2_with fail
  refine wp_region_held_drew (S := (fun w' => w'.cell? ⟨X, 1, none⟩ = some (.slice (some ⟨t, 0, none⟩) ln cap) ∧ w'.cell? ⟨t, k, none⟩ = some (ptrN g) ∧ w'.cell? ⟨X, 2, none⟩ = some (.slice (some ⟨t2, 0, none⟩) ln cap2) ∧ w'.rangeAt t2 (k * 261) L)) (by kernel_rfl) (HS1.out _ (Below.refl _ _).drew) (fun hHeld => ?_)
  refine wpAnyH_take (i := 0) (oi := { dst := some 19, op := Op.move (Operand.tmp 0), type := 25, pos := "law.go:112", after := #[], guard := none }) (v := ?v1) rfl (by kernel_rfl) (by kernel_rfl) (by kernel_rfl) (fun _ _ _ h => h) (Or.inl ⟨by rfl, ?hy1⟩) hHeld ?rest1
  case hy1 => (intro w' hSw; (try dsimp only at hSw); go_simp; (try with_reducible rfl))
  try simp only [Act.put, List.setIfInBounds_toArray, List.set_cons_zero, List.set_cons_succ]
  refine wpAnyH_take (i := 1) (oi := { dst := some 20, op := Op.nilCheck (Operand.tmp 19), type := 0, pos := "law.go:112", after := #[{ on := 0, ground := Ground.data }], guard := none }) (v := ?v2) rfl (by kernel_rfl) (by kernel_rfl) (by kernel_rfl) (fun _ _ _ h => h) (Or.inl ⟨by rfl, ?hy2⟩) hHeld ?rest2
  case hy2 => (intro w' hSw; (try dsimp only at hSw); go_simp; (try with_reducible rfl))
  try simp only [Act.put, List.setIfInBounds_toArray, List.set_cons_zero, List.set_cons_succ]
  refine wpAnyH_take (i := 2) (oi := { dst := some 21, op := Op.fieldAddr 36 (Operand.tmp 20) 1, type := 0, pos := "law.go:112", after := #[{ on := 1, ground := Ground.data }], guard := none }) (v := ?v3) rfl (by kernel_rfl) (by kernel_rfl) (by kernel_rfl) (fun _ _ _ h => h) (Or.inl ⟨by rfl, ?hy3⟩) hHeld ?rest3
  case hy3 => (intro w' hSw; (try dsimp only at hSw); go_simp; (try with_reducible rfl))
  try simp only [Act.put, List.setIfInBounds_toArray, List.set_cons_zero, List.set_cons_succ]
  refine wpAnyH_take (i := 3) (oi := { dst := some 22, op := Op.load 33 (Operand.tmp 21), type := 33, pos := "law.go:112", after := #[{ on := 2, ground := Ground.data }], guard := none }) (v := ?v4) rfl (by kernel_rfl) (by kernel_rfl) (by kernel_rfl) (fun _ _ _ h => h) (Or.inl ⟨by rfl, ?hy4⟩) hHeld ?rest4
  case hy4 => (intro w' hSw; (try dsimp only at hSw); go_simp; (try with_reducible rfl))
  try simp only [Act.put, List.setIfInBounds_toArray, List.set_cons_zero, List.set_cons_succ]
  refine wpAnyH_take (i := 4) (oi := { dst := some 23, op := Op.move (Operand.tmp 1), type := 3, pos := "law.go:112", after := #[], guard := none }) (v := ?v5) rfl (by kernel_rfl) (by kernel_rfl) (by kernel_rfl) (fun _ _ _ h => h) (Or.inl ⟨by rfl, ?hy5⟩) hHeld ?rest5
  case hy5 => (intro w' hSw; (try dsimp only at hSw); go_simp; (try with_reducible rfl))
  try simp only [Act.put, List.setIfInBounds_toArray, List.set_cons_zero, List.set_cons_succ]
  refine wpAnyH_take (i := 5) (oi := { dst := some 24, op := Op.indexAddr 33 (Operand.tmp 22) (Operand.tmp 23), type := 0, pos := "law.go:112", after := #[{ on := 3, ground := Ground.data }, { on := 4, ground := Ground.data }], guard := none }) (v := .pointer (some ⟨t, k, none⟩)) rfl (by kernel_rfl) (by kernel_rfl) (by kernel_rfl) (fun _ _ _ h => h) (Or.inl ⟨by rfl, ?hyV⟩) hHeld ?_
  case hyV => (intro w' hSw; (try dsimp only at hSw); go_simp; (try rw [if_pos ⟨by omega, hkl⟩]); (try simp only [Int.toNat_natCast, Nat.mul_one, Nat.zero_add]); (try rfl))
  try simp only [Act.put, List.setIfInBounds_toArray, List.set_cons_zero, List.set_cons_succ]
  refine wpAnyH_take (i := 6) (oi := { dst := some 25, op := Op.load 46 (Operand.tmp 24), type := 46, pos := "law.go:112", after := #[{ on := 5, ground := Ground.data }], guard := none }) (v := ?v6) rfl (by kernel_rfl) (by kernel_rfl) (by kernel_rfl) (fun _ _ _ h => h) (Or.inl ⟨by rfl, ?hy6⟩) hHeld ?rest6
  case hy6 => (intro w' hSw; (try dsimp only at hSw); go_simp; (try with_reducible rfl))
  try simp only [Act.put, List.setIfInBounds_toArray, List.set_cons_zero, List.set_cons_succ]
  refine wpAnyH_take (i := 7) (oi := { dst := some 26, op := Op.move (Operand.tmp 0), type := 25, pos := "law.go:112", after := #[{ on := 15, ground := Ground.gcOnly Departure.lateStores }], guard := none }) (v := ?v7) rfl (by kernel_rfl) (by kernel_rfl) (by kernel_rfl) (fun _ _ _ h => h) (Or.inl ⟨by rfl, ?hy7⟩) hHeld ?rest7
  case hy7 => (intro w' hSw; (try dsimp only at hSw); go_simp; (try with_reducible rfl))
  try simp only [Act.put, List.setIfInBounds_toArray, List.set_cons_zero, List.set_cons_succ]
  refine wpAnyH_take (i := 8) (oi := { dst := some 27, op := Op.nilCheck (Operand.tmp 26), type := 0, pos := "law.go:112", after := #[{ on := 7, ground := Ground.data }, { on := 15, ground := Ground.gcOnly Departure.lateStores }], guard := none }) (v := ?v8) rfl (by kernel_rfl) (by kernel_rfl) (by kernel_rfl) (fun _ _ _ h => h) (Or.inl ⟨by rfl, ?hy8⟩) hHeld ?rest8
  case hy8 => (intro w' hSw; (try dsimp only at hSw); go_simp; (try with_reducible rfl))
  try simp only [Act.put, List.setIfInBounds_toArray, List.set_cons_zero, List.set_cons_succ]
  refine wpAnyH_take (i := 9) (oi := { dst := some 28, op := Op.fieldAddr 36 (Operand.tmp 27) 2, type := 0, pos := "law.go:112", after := #[{ on := 8, ground := Ground.data }, { on := 15, ground := Ground.gcOnly Departure.lateStores }], guard := none }) (v := ?v9) rfl (by kernel_rfl) (by kernel_rfl) (by kernel_rfl) (fun _ _ _ h => h) (Or.inl ⟨by rfl, ?hy9⟩) hHeld ?rest9
  case hy9 => (intro w' hSw; (try dsimp only at hSw); go_simp; (try with_reducible rfl))
  try simp only [Act.put, List.setIfInBounds_toArray, List.set_cons_zero, List.set_cons_succ]
  refine wpAnyH_take (i := 10) (oi := { dst := some 29, op := Op.load 34 (Operand.tmp 28), type := 34, pos := "law.go:112", after := #[{ on := 9, ground := Ground.data }, { on := 15, ground := Ground.gcOnly Departure.lateStores }], guard := none }) (v := ?v10) rfl (by kernel_rfl) (by kernel_rfl) (by kernel_rfl) (fun _ _ _ h => h) (Or.inl ⟨by rfl, ?hy10⟩) hHeld ?rest10
  case hy10 => (intro w' hSw; (try dsimp only at hSw); go_simp; (try with_reducible rfl))
  try simp only [Act.put, List.setIfInBounds_toArray, List.set_cons_zero, List.set_cons_succ]
  refine wpAnyH_take (i := 11) (oi := { dst := some 30, op := Op.move (Operand.tmp 1), type := 3, pos := "law.go:112", after := #[{ on := 15, ground := Ground.gcOnly Departure.lateStores }], guard := none }) (v := ?v11) rfl (by kernel_rfl) (by kernel_rfl) (by kernel_rfl) (fun _ _ _ h => h) (Or.inl ⟨by rfl, ?hy11⟩) hHeld ?rest11
  case hy11 => (intro w' hSw; (try dsimp only at hSw); go_simp; (try with_reducible rfl))
  try simp only [Act.put, List.setIfInBounds_toArray, List.set_cons_zero, List.set_cons_succ]
  refine wpAnyH_take (i := 12) (oi := { dst := some 31, op := Op.indexAddr 34 (Operand.tmp 29) (Operand.tmp 30), type := 0, pos := "law.go:112", after := #[{ on := 10, ground := Ground.data }, { on := 11, ground := Ground.data }, { on := 15, ground := Ground.gcOnly Departure.lateStores }], guard := none }) (v := .pointer (some ⟨t2, k * 261, none⟩)) rfl (by kernel_rfl) (by kernel_rfl) (by kernel_rfl) (fun _ _ _ h => h) (Or.inl ⟨by rfl, ?hyV⟩) hHeld ?_
  case hyV => (intro w' hSw; (try dsimp only at hSw); go_simp; (try rw [if_pos ⟨by omega, hkl⟩]); (try simp only [Int.toNat_natCast, Nat.zero_add]); (try rfl))
  try simp only [Act.put, List.setIfInBounds_toArray, List.set_cons_zero, List.set_cons_succ]
  refine wpAnyH_take (i := 13) (oi := { dst := some 32, op := Op.load 59 (Operand.tmp 31), type := 59, pos := "law.go:112", after := #[{ on := 12, ground := Ground.data }, { on := 15, ground := Ground.gcOnly Departure.lateStores }], guard := none }) (v := .agg L.toArray) rfl (by kernel_rfl) (by kernel_rfl) (by kernel_rfl) (fun _ _ _ h => h) (yieldsIf_load_mid (by rfl) 59 (.tmp 31) rfl t2 (k * 261) (by rfl) L _ (fun _ h => h.2.2.2) Tryz.underlying59 rfl HLn.out.sz) hHeld ?_
  try simp only [Act.put, List.setIfInBounds_toArray, List.set_cons_zero, List.set_cons_succ]
  refine wpAnyH_ready (rs := [14]) (by kernel_rfl) (by simp) (AllReadyH.cons (o := { dst := some 8, op := Op.alloc 59, type := 0, pos := "law.go:112", after := #[], guard := none }) rfl (fun K hK => ?_) AllReadyH.nil)
  rw [if_pos (by rfl)]
  refine wp_alloc_z 59 rfl zs HZ.out ?_
  refine hK.out _ _ (HS1.out _ ((Below.refl _ _).drew.alloc (Nat.le_refl _) _)) (fun hHeld' => ?_)
  clear hK K hHeld
  have hHeld := hHeld'
  clear hHeld'
  try simp only [Act.put, List.setIfInBounds_toArray, List.set_cons_zero, List.set_cons_succ]
  refine wpAnyH_take (i := 15) (oi := { dst := some 7, op := Op.assign (Operand.tmp 25), type := 46, pos := "law.go:112", after := #[{ on := 6, ground := Ground.data }, { on := 0, ground := Ground.phase }, { on := 1, ground := Ground.phase }, { on := 2, ground := Ground.phase }, { on := 3, ground := Ground.phase }, { on := 4, ground := Ground.phase }, { on := 5, ground := Ground.phase }, { on := 6, ground := Ground.phase }, { on := 7, ground := Ground.textOnly Departure.lateStores }, { on := 8, ground := Ground.textOnly Departure.lateStores }, { on := 9, ground := Ground.textOnly Departure.lateStores }, { on := 10, ground := Ground.textOnly Departure.lateStores }, { on := 11, ground := Ground.textOnly Departure.lateStores }, { on := 12, ground := Ground.textOnly Departure.lateStores }, { on := 13, ground := Ground.textOnly Departure.lateStores }, { on := 14, ground := Ground.phase }], guard := none }) (v := ?v12) rfl (by kernel_rfl) (by kernel_rfl) (by kernel_rfl) (fun _ _ _ h => h) (Or.inl ⟨by rfl, ?hy12⟩) hHeld ?rest12
  case hy12 => (intro w' hSw; (try dsimp only at hSw); go_simp; (try with_reducible rfl))
  try simp only [Act.put, List.setIfInBounds_toArray, List.set_cons_zero, List.set_cons_succ]
  refine wpAnyH_ready (rs := [16]) (by kernel_rfl) (by simp) (AllReadyH.cons (o := { dst := none, op := Op.store 59 (Operand.tmp 8) (Operand.tmp 32), type := 0, pos := "law.go:112", after := #[{ on := 14, ground := Ground.data }, { on := 13, ground := Ground.data }, { on := 15, ground := Ground.chain }, { on := 0, ground := Ground.phase }, { on := 1, ground := Ground.phase }, { on := 2, ground := Ground.phase }, { on := 3, ground := Ground.phase }, { on := 4, ground := Ground.phase }, { on := 5, ground := Ground.phase }, { on := 6, ground := Ground.phase }, { on := 7, ground := Ground.phase }, { on := 8, ground := Ground.phase }, { on := 9, ground := Ground.phase }, { on := 10, ground := Ground.phase }, { on := 11, ground := Ground.phase }, { on := 12, ground := Ground.phase }, { on := 13, ground := Ground.phase }, { on := 14, ground := Ground.phase }, { on := 15, ground := Ground.phase }], guard := none }) rfl (fun K hK => ?_) AllReadyH.nil)
  rw [if_pos (by rfl)]
  refine wp_store_mid 59 (.tmp 8) (.tmp 32) rfl w.heap.size 0 L.toArray (by rfl) (by rfl) HTh.out HLn.out.szA HLn.out.all1 ?_
  refine hK.out _ _ (HS1.out _ HB1.out) (fun hHeld' => ?_)
  clear hK K hHeld
  have hHeld := hHeld'
  clear hHeld'
  try simp only [Act.put, List.setIfInBounds_toArray, List.set_cons_zero, List.set_cons_succ]
  refine wpAnyH_done (by kernel_rfl) ?_ _
  go_wp2_with fail
  rw [show (w.alloc (.cells zs 59)).drew.setCells w.heap.size 0 L = W1 from HW1.out]
  (with_reducible refine (CV.out _ (Below.refl _ _)).mono ?_)
  rintro e w2 ⟨rfl, s2⟩
  have B2 := Lib.hid (s2.below W1.heap.size)
  clear s2
  go_wp2_with fail
  (with_reducible refine (CN.out _ B2.out).mono ?_)
  rintro e w3 ⟨rfl, s3⟩
  have B3 := Lib.hid (B2.out.trans (s3.below W1.heap.size))
  clear s3
  go_wp2_with fail
  (with_reducible refine (CP.out _ B3.out).mono ?_)
  rintro e w4 ⟨rfl, s4⟩
  have B4 := Lib.hid (B3.out.trans (s4.below W1.heap.size))
  clear s4
  go_wp2_with (refine wpList_load_mid rfl 59 (.tmp 8) rfl w.heap.size 0 rfl L _ (HR.out _ B4.out) Tryz.underlying59 rfl HLn.out.sz ?_)
  (with_reducible refine (RN.out _).mono ?_)
  rintro e w5 ⟨rfl, h5⟩
  have B5 := Lib.hid (B4.out.trans (h5.mono B4.out.size))
  clear h5
  go_wp2_with (refine wpList_load_mid rfl 59 (.tmp 8) rfl w.heap.size 0 rfl L _ (HR.out _ B5.out) Tryz.underlying59 rfl HLn.out.sz ?_)
  (with_reducible refine (RP.out _).mono ?_)
  rintro e w6 ⟨rfl, h6⟩
  have B6 := Lib.hid (B5.out.trans (h6.mono B5.out.size))
  clear h6
  go_wp2_with fail
  refine wp_region_held_drew (S := (fun w' => w'.cell? ⟨w.heap.size, 5 + bz.toNat, none⟩ = some (.int .i64 bk))) (by kernel_rfl) (HC.out _ B6.out.drew).2.2.2.2 (fun hHeld => ?_)
  refine wpAnyH_take (i := 0) (oi := { dst := some 62, op := Op.move (Operand.tmp 11), type := 5, pos := "law.go:118", after := #[], guard := none }) (v := ?v13) rfl (by kernel_rfl) (by kernel_rfl) (by kernel_rfl) (fun _ _ _ h => h) (Or.inl ⟨by rfl, ?hy13⟩) hHeld ?rest13
  case hy13 => (intro w' hSw; (try dsimp only at hSw); go_simp; (try with_reducible rfl))
  try simp only [Act.put, List.setIfInBounds_toArray, List.set_cons_zero, List.set_cons_succ]
  refine wpAnyH_take (i := 1) (oi := { dst := some 63, op := Op.move (Operand.tmp 15), type := 5, pos := "law.go:118", after := #[], guard := none }) (v := ?v14) rfl (by kernel_rfl) (by kernel_rfl) (by kernel_rfl) (fun _ _ _ h => h) (Or.inl ⟨by rfl, ?hy14⟩) hHeld ?rest14
  case hy14 => (intro w' hSw; (try dsimp only at hSw); go_simp; (try with_reducible rfl))
  try simp only [Act.put, List.setIfInBounds_toArray, List.set_cons_zero, List.set_cons_succ]
  refine wpAnyH_take (i := 2) (oi := { dst := some 64, op := Op.binOp BinOp.neq 5 (Operand.tmp 62) (Operand.tmp 63) 5, type := 4, pos := "law.go:118", after := #[{ on := 0, ground := Ground.data }, { on := 1, ground := Ground.data }], guard := none }) (v := ?v15) rfl (by kernel_rfl) (by kernel_rfl) (by kernel_rfl) (fun _ _ _ h => h) (Or.inl ⟨by rfl, ?hy15⟩) hHeld ?rest15
  case hy15 => (intro w' hSw; (try dsimp only at hSw); go_simp; (try with_reducible rfl))
  try simp only [Act.put, List.setIfInBounds_toArray, List.set_cons_zero, List.set_cons_succ]
  refine wpAnyH_take (i := 3) (oi := { dst := some 65, op := Op.move (Operand.tmp 64), type := 4, pos := "law.go:118", after := #[{ on := 2, ground := Ground.data }], guard := none }) (v := ?v16) rfl (by kernel_rfl) (by kernel_rfl) (by kernel_rfl) (fun _ _ _ h => h) (Or.inl ⟨by rfl, ?hy16⟩) hHeld ?rest16
  case hy16 => (intro w' hSw; (try dsimp only at hSw); go_simp; (try with_reducible rfl))
  try simp only [Act.put, List.setIfInBounds_toArray, List.set_cons_zero, List.set_cons_succ]
  refine wpAnyH_take (i := 4) (oi := { dst := some 66, op := Op.move (Operand.tmp 12), type := 46, pos := "law.go:118", after := #[{ on := 3, ground := Ground.guard }], guard := some (3, false) }) (v := ?v17) rfl (by kernel_rfl) (by kernel_rfl) (by kernel_rfl) (fun _ _ _ h => h) (Or.inl ⟨by rfl, ?hy17⟩) hHeld ?rest17
  case hy17 => (intro w' hSw; (try dsimp only at hSw); go_simp; (try with_reducible rfl))
  try simp only [Act.put, List.setIfInBounds_toArray, List.set_cons_zero, List.set_cons_succ]
  refine wpAnyH_take (i := 5) (oi := { dst := some 67, op := Op.move (Operand.tmp 0), type := 25, pos := "law.go:118", after := #[{ on := 3, ground := Ground.guard }], guard := some (3, false) }) (v := ?v18) rfl (by kernel_rfl) (by kernel_rfl) (by kernel_rfl) (fun _ _ _ h => h) (Or.inl ⟨by rfl, ?hy18⟩) hHeld ?rest18
  case hy18 => (intro w' hSw; (try dsimp only at hSw); go_simp; (try with_reducible rfl))
  try simp only [Act.put, List.setIfInBounds_toArray, List.set_cons_zero, List.set_cons_succ]
  refine wpAnyH_take (i := 6) (oi := { dst := some 68, op := Op.move (Operand.tmp 16), type := 3, pos := "law.go:118", after := #[{ on := 3, ground := Ground.guard }], guard := some (3, false) }) (v := ?v19) rfl (by kernel_rfl) (by kernel_rfl) (by kernel_rfl) (fun _ _ _ h => h) (Or.inl ⟨by rfl, ?hy19⟩) hHeld ?rest19
  case hy19 => (intro w' hSw; (try dsimp only at hSw); go_simp; (try with_reducible rfl))
  try simp only [Act.put, List.setIfInBounds_toArray, List.set_cons_zero, List.set_cons_succ]
  refine wpAnyH_ready (rs := [7]) (by kernel_rfl) (by simp) (AllReadyH.cons (o := { dst := some 69, op := Op.call { callee := Callee.value (Operand.func 26), args := #[Operand.tmp 67, Operand.tmp 68], argTypes := #[25, 3] }, type := 46, pos := "law.go:118", after := #[{ on := 5, ground := Ground.data }, { on := 6, ground := Ground.data }, { on := 3, ground := Ground.chain }, { on := 3, ground := Ground.guard }], guard := some (3, false) }) rfl (fun K hK => ?_) AllReadyH.nil)
  go_simp
  (with_reducible refine ((CD.out _ B6.out.drew).1).mono ?_)
  rintro e w7 ⟨rfl, hw7⟩
  have B7 := Lib.hid (show Below W1.heap.size W1 w7 by rw [hw7]; exact B6.out.drew)
  clear hw7
  go_wp2_with fail
  refine hK.out _ _ (HC.out _ B7.out).2.2.2.2 (fun hHeld' => ?_)
  clear hK K hHeld
  have hHeld := hHeld'
  clear hHeld'
  try simp only [Act.put, List.setIfInBounds_toArray, List.set_cons_zero, List.set_cons_succ]
  refine wpAnyH_take (i := 8) (oi := { dst := some 70, op := Op.binOp BinOp.neq 46 (Operand.tmp 66) (Operand.tmp 69) 46, type := 4, pos := "law.go:118", after := #[{ on := 4, ground := Ground.data }, { on := 7, ground := Ground.data }, { on := 3, ground := Ground.guard }], guard := some (3, false) }) (v := ?v20) rfl (by kernel_rfl) (by kernel_rfl) (by kernel_rfl) (fun _ _ _ h => h) (Or.inl ⟨by rfl, ?hy20⟩) hHeld ?rest20
  case hy20 => (intro w' hSw; (try dsimp only at hSw); go_simp; (try with_reducible rfl))
  try simp only [Act.put, List.setIfInBounds_toArray, List.set_cons_zero, List.set_cons_succ]
  refine wpAnyH_take (i := 9) (oi := { dst := some 71, op := Op.pick (Operand.tmp 65) (Operand.const (Value.bool true)) (Operand.tmp 70), type := 4, pos := "law.go:118", after := #[{ on := 3, ground := Ground.data }, { on := 8, ground := Ground.data }], guard := none }) (v := ?v21) rfl (by kernel_rfl) (by kernel_rfl) (by kernel_rfl) (fun _ _ _ h => h) (Or.inl ⟨by rfl, ?hy21⟩) hHeld ?rest21
  case hy21 => (intro w' hSw; (try dsimp only at hSw); go_simp; (try with_reducible rfl))
  try simp only [Act.put, List.setIfInBounds_toArray, List.set_cons_zero, List.set_cons_succ]
  refine wpAnyH_take (i := 10) (oi := { dst := some 72, op := Op.move (Operand.tmp 71), type := 4, pos := "law.go:118", after := #[{ on := 9, ground := Ground.data }, { on := 7, ground := Ground.chain }], guard := none }) (v := ?v22) rfl (by kernel_rfl) (by kernel_rfl) (by kernel_rfl) (fun _ _ _ h => h) (Or.inl ⟨by rfl, ?hy22⟩) hHeld ?rest22
  case hy22 => (intro w' hSw; (try dsimp only at hSw); go_simp; (try with_reducible rfl))
  try simp only [Act.put, List.setIfInBounds_toArray, List.set_cons_zero, List.set_cons_succ]
  refine wpAnyH_take (i := 11) (oi := { dst := some 73, op := Op.move (Operand.tmp 13), type := 5, pos := "law.go:118", after := #[{ on := 10, ground := Ground.guard }], guard := some (10, false) }) (v := ?v23) rfl (by kernel_rfl) (by kernel_rfl) (by kernel_rfl) (fun _ _ _ h => h) (Or.inl ⟨by rfl, ?hy23⟩) hHeld ?rest23
  case hy23 => (intro w' hSw; (try dsimp only at hSw); go_simp; (try with_reducible rfl))
  try simp only [Act.put, List.setIfInBounds_toArray, List.set_cons_zero, List.set_cons_succ]
  refine wpAnyH_take (i := 12) (oi := { dst := some 74, op := Op.move (Operand.tmp 17), type := 5, pos := "law.go:118", after := #[{ on := 10, ground := Ground.guard }], guard := some (10, false) }) (v := ?v24) rfl (by kernel_rfl) (by kernel_rfl) (by kernel_rfl) (fun _ _ _ h => h) (Or.inl ⟨by rfl, ?hy24⟩) hHeld ?rest24
  case hy24 => (intro w' hSw; (try dsimp only at hSw); go_simp; (try with_reducible rfl))
  try simp only [Act.put, List.setIfInBounds_toArray, List.set_cons_zero, List.set_cons_succ]
  refine wpAnyH_take (i := 13) (oi := { dst := some 75, op := Op.binOp BinOp.neq 5 (Operand.tmp 73) (Operand.tmp 74) 5, type := 4, pos := "law.go:118", after := #[{ on := 11, ground := Ground.data }, { on := 12, ground := Ground.data }, { on := 10, ground := Ground.guard }], guard := some (10, false) }) (v := ?v25) rfl (by kernel_rfl) (by kernel_rfl) (by kernel_rfl) (fun _ _ _ h => h) (Or.inl ⟨by rfl, ?hy25⟩) hHeld ?rest25
  case hy25 => (intro w' hSw; (try dsimp only at hSw); go_simp; (try with_reducible rfl))
  try simp only [Act.put, List.setIfInBounds_toArray, List.set_cons_zero, List.set_cons_succ]
  refine wpAnyH_take (i := 14) (oi := { dst := some 76, op := Op.pick (Operand.tmp 72) (Operand.const (Value.bool true)) (Operand.tmp 75), type := 4, pos := "law.go:118", after := #[{ on := 10, ground := Ground.data }, { on := 13, ground := Ground.data }], guard := none }) (v := ?v26) rfl (by kernel_rfl) (by kernel_rfl) (by kernel_rfl) (fun _ _ _ h => h) (Or.inl ⟨by rfl, ?hy26⟩) hHeld ?rest26
  case hy26 => (intro w' hSw; (try dsimp only at hSw); go_simp; (try with_reducible rfl))
  try simp only [Act.put, List.setIfInBounds_toArray, List.set_cons_zero, List.set_cons_succ]
  refine wpAnyH_take (i := 15) (oi := { dst := some 77, op := Op.move (Operand.tmp 76), type := 4, pos := "law.go:118", after := #[{ on := 14, ground := Ground.data }, { on := 10, ground := Ground.chain }], guard := none }) (v := ?v27) rfl (by kernel_rfl) (by kernel_rfl) (by kernel_rfl) (fun _ _ _ h => h) (Or.inl ⟨by rfl, ?hy27⟩) hHeld ?rest27
  case hy27 => (intro w' hSw; (try dsimp only at hSw); go_simp; (try with_reducible rfl))
  try simp only [Act.put, List.setIfInBounds_toArray, List.set_cons_zero, List.set_cons_succ]
  refine wpAnyH_take (i := 16) (oi := { dst := some 78, op := Op.move (Operand.tmp 14), type := 46, pos := "law.go:118", after := #[{ on := 15, ground := Ground.guard }], guard := some (15, false) }) (v := ?v28) rfl (by kernel_rfl) (by kernel_rfl) (by kernel_rfl) (fun _ _ _ h => h) (Or.inl ⟨by rfl, ?hy28⟩) hHeld ?rest28
  case hy28 => (intro w' hSw; (try dsimp only at hSw); go_simp; (try with_reducible rfl))
  try simp only [Act.put, List.setIfInBounds_toArray, List.set_cons_zero, List.set_cons_succ]
  refine wpAnyH_take (i := 17) (oi := { dst := some 79, op := Op.move (Operand.tmp 0), type := 25, pos := "law.go:118", after := #[{ on := 15, ground := Ground.guard }], guard := some (15, false) }) (v := ?v29) rfl (by kernel_rfl) (by kernel_rfl) (by kernel_rfl) (fun _ _ _ h => h) (Or.inl ⟨by rfl, ?hy29⟩) hHeld ?rest29
  case hy29 => (intro w' hSw; (try dsimp only at hSw); go_simp; (try with_reducible rfl))
  try simp only [Act.put, List.setIfInBounds_toArray, List.set_cons_zero, List.set_cons_succ]
  refine wpAnyH_take (i := 18) (oi := { dst := some 80, op := Op.move (Operand.tmp 18), type := 3, pos := "law.go:118", after := #[{ on := 15, ground := Ground.guard }], guard := some (15, false) }) (v := ?v30) rfl (by kernel_rfl) (by kernel_rfl) (by kernel_rfl) (fun _ _ _ h => h) (Or.inl ⟨by rfl, ?hy30⟩) hHeld ?rest30
  case hy30 => (intro w' hSw; (try dsimp only at hSw); go_simp; (try with_reducible rfl))
  try simp only [Act.put, List.setIfInBounds_toArray, List.set_cons_zero, List.set_cons_succ]
  refine wpAnyH_ready (rs := [19]) (by kernel_rfl) (by simp) (AllReadyH.cons (o := { dst := some 81, op := Op.call { callee := Callee.value (Operand.func 26), args := #[Operand.tmp 79, Operand.tmp 80], argTypes := #[25, 3] }, type := 46, pos := "law.go:118", after := #[{ on := 17, ground := Ground.data }, { on := 18, ground := Ground.data }, { on := 15, ground := Ground.chain }, { on := 15, ground := Ground.guard }], guard := some (15, false) }) rfl (fun K hK => ?_) AllReadyH.nil)
  go_simp
  (with_reducible refine ((CD.out _ B7.out).2.1).mono ?_)
  rintro e w8 ⟨rfl, hw8⟩
  have B8 := Lib.hid (show Below W1.heap.size W1 w8 by rw [hw8]; exact B7.out)
  clear hw8
  go_wp2_with fail
  refine hK.out _ _ (HC.out _ B8.out).2.2.2.2 (fun hHeld' => ?_)
  clear hK K hHeld
  have hHeld := hHeld'
  clear hHeld'
  try simp only [Act.put, List.setIfInBounds_toArray, List.set_cons_zero, List.set_cons_succ]
  refine wpAnyH_take (i := 20) (oi := { dst := some 82, op := Op.binOp BinOp.neq 46 (Operand.tmp 78) (Operand.tmp 81) 46, type := 4, pos := "law.go:118", after := #[{ on := 16, ground := Ground.data }, { on := 19, ground := Ground.data }, { on := 15, ground := Ground.guard }], guard := some (15, false) }) (v := ?v31) rfl (by kernel_rfl) (by kernel_rfl) (by kernel_rfl) (fun _ _ _ h => h) (Or.inl ⟨by rfl, ?hy31⟩) hHeld ?rest31
  case hy31 => (intro w' hSw; (try dsimp only at hSw); go_simp; (try with_reducible rfl))
  try simp only [Act.put, List.setIfInBounds_toArray, List.set_cons_zero, List.set_cons_succ]
  refine wpAnyH_take (i := 21) (oi := { dst := some 83, op := Op.pick (Operand.tmp 77) (Operand.const (Value.bool true)) (Operand.tmp 82), type := 4, pos := "law.go:118", after := #[{ on := 15, ground := Ground.data }, { on := 20, ground := Ground.data }], guard := none }) (v := ?v32) rfl (by kernel_rfl) (by kernel_rfl) (by kernel_rfl) (fun _ _ _ h => h) (Or.inl ⟨by rfl, ?hy32⟩) hHeld ?rest32
  case hy32 => (intro w' hSw; (try dsimp only at hSw); go_simp; (try with_reducible rfl))
  try simp only [Act.put, List.setIfInBounds_toArray, List.set_cons_zero, List.set_cons_succ]
  refine wpAnyH_take (i := 22) (oi := { dst := some 84, op := Op.move (Operand.tmp 83), type := 4, pos := "law.go:118", after := #[{ on := 21, ground := Ground.data }, { on := 19, ground := Ground.chain }], guard := none }) (v := ?v33) rfl (by kernel_rfl) (by kernel_rfl) (by kernel_rfl) (fun _ _ _ h => h) (Or.inl ⟨by rfl, ?hy33⟩) hHeld ?rest33
  case hy33 => (intro w' hSw; (try dsimp only at hSw); go_simp; (try with_reducible rfl))
  try simp only [Act.put, List.setIfInBounds_toArray, List.set_cons_zero, List.set_cons_succ]
  refine wpAnyH_take (i := 23) (oi := { dst := some 85, op := Op.move (Operand.tmp 7), type := 46, pos := "law.go:118", after := #[{ on := 22, ground := Ground.guard }], guard := some (22, false) }) (v := ?v34) rfl (by kernel_rfl) (by kernel_rfl) (by kernel_rfl) (fun _ _ _ h => h) (Or.inl ⟨by rfl, ?hy34⟩) hHeld ?rest34
  case hy34 => (intro w' hSw; (try dsimp only at hSw); go_simp; (try with_reducible rfl))
  try simp only [Act.put, List.setIfInBounds_toArray, List.set_cons_zero, List.set_cons_succ]
  refine wpAnyH_take (i := 24) (oi := { dst := some 86, op := Op.move (Operand.tmp 2), type := 3, pos := "law.go:118", after := #[{ on := 22, ground := Ground.guard }], guard := some (22, false) }) (v := ?v35) rfl (by kernel_rfl) (by kernel_rfl) (by kernel_rfl) (fun _ _ _ h => h) (Or.inl ⟨by rfl, ?hy35⟩) hHeld ?rest35
  case hy35 => (intro w' hSw; (try dsimp only at hSw); go_simp; (try with_reducible rfl))
  try simp only [Act.put, List.setIfInBounds_toArray, List.set_cons_zero, List.set_cons_succ]
  refine wpAnyH_take (i := 25) (oi := { dst := some 87, op := Op.convert 3 5 (Operand.tmp 86), type := 5, pos := "law.go:118", after := #[{ on := 24, ground := Ground.data }, { on := 22, ground := Ground.guard }], guard := some (22, false) }) (v := ?v36) rfl (by kernel_rfl) (by kernel_rfl) (by kernel_rfl) (fun _ _ _ h => h) (Or.inl ⟨by rfl, ?hy36⟩) hHeld ?rest36
  case hy36 => (intro w' hSw; (try dsimp only at hSw); go_simp; (try with_reducible rfl))
  try simp only [Act.put, List.setIfInBounds_toArray, List.set_cons_zero, List.set_cons_succ]
  refine wpAnyH_take (i := 27) (oi := { dst := some 89, op := Op.move (Operand.tmp 0), type := 25, pos := "law.go:118", after := #[{ on := 22, ground := Ground.guard }], guard := some (22, false) }) (v := ?v37) rfl (by kernel_rfl) (by kernel_rfl) (by kernel_rfl) (fun _ _ _ h => h) (Or.inl ⟨by rfl, ?hy37⟩) hHeld ?rest37
  case hy37 => (intro w' hSw; (try dsimp only at hSw); go_simp; (try with_reducible rfl))
  try simp only [Act.put, List.setIfInBounds_toArray, List.set_cons_zero, List.set_cons_succ]
  refine wpAnyH_take (i := 28) (oi := { dst := some 90, op := Op.move (Operand.tmp 2), type := 3, pos := "law.go:118", after := #[{ on := 22, ground := Ground.guard }], guard := some (22, false) }) (v := ?v38) rfl (by kernel_rfl) (by kernel_rfl) (by kernel_rfl) (fun _ _ _ h => h) (Or.inl ⟨by rfl, ?hy38⟩) hHeld ?rest38
  case hy38 => (intro w' hSw; (try dsimp only at hSw); go_simp; (try with_reducible rfl))
  try simp only [Act.put, List.setIfInBounds_toArray, List.set_cons_zero, List.set_cons_succ]
  refine wpAnyH_take (i := 29) (oi := { dst := some 91, op := Op.convert 3 5 (Operand.tmp 90), type := 5, pos := "law.go:118", after := #[{ on := 28, ground := Ground.data }, { on := 22, ground := Ground.guard }], guard := some (22, false) }) (v := ?v39) rfl (by kernel_rfl) (by kernel_rfl) (by kernel_rfl) (fun _ _ _ h => h) (Or.inl ⟨by rfl, ?hy39⟩) hHeld ?rest39
  case hy39 => (intro w' hSw; (try dsimp only at hSw); go_simp; (try with_reducible rfl))
  try simp only [Act.put, List.setIfInBounds_toArray, List.set_cons_zero, List.set_cons_succ]
  refine wpAnyH_take (i := 30) (oi := { dst := some 92, op := Op.convert 5 3 (Operand.tmp 91), type := 3, pos := "law.go:118", after := #[{ on := 29, ground := Ground.data }, { on := 22, ground := Ground.guard }], guard := some (22, false) }) (v := ?v40) rfl (by kernel_rfl) (by kernel_rfl) (by kernel_rfl) (fun _ _ _ h => h) (Or.inl ⟨by rfl, ?hy40⟩) hHeld ?rest40
  case hy40 => (intro w' hSw; (try dsimp only at hSw); go_simp; (try with_reducible rfl))
  try simp only [Act.put, List.setIfInBounds_toArray, List.set_cons_zero, List.set_cons_succ]
  refine wpAnyH_take (i := 31) (oi := { dst := some 93, op := Op.fieldAddr 59 (Operand.tmp 8) 5, type := 0, pos := "law.go:118", after := #[{ on := 22, ground := Ground.guard }], guard := some (22, false) }) (v := ?v41) rfl (by kernel_rfl) (by kernel_rfl) (by kernel_rfl) (fun _ _ _ h => h) (Or.inl ⟨by rfl, ?hy41⟩) hHeld ?rest41
  case hy41 => (intro w' hSw; (try dsimp only at hSw); go_simp; (try with_reducible rfl))
  try simp only [Act.put, List.setIfInBounds_toArray, List.set_cons_zero, List.set_cons_succ]
  refine wpAnyH_take (i := 32) (oi := { dst := some 94, op := Op.indexAddr 57 (Operand.tmp 93) (Operand.tmp 92), type := 0, pos := "law.go:118", after := #[{ on := 31, ground := Ground.data }, { on := 30, ground := Ground.data }, { on := 22, ground := Ground.guard }], guard := some (22, false) }) (v := ?v42) rfl (by kernel_rfl) (by kernel_rfl) (by kernel_rfl) (fun _ _ _ h => h) (Or.inl ⟨by rfl, ?hy42⟩) hHeld ?rest42
  case hy42 => (intro w' hSw; (try dsimp only at hSw); go_simp; (try with_reducible rfl))
  try simp only [Act.put, List.setIfInBounds_toArray, List.set_cons_zero, List.set_cons_succ]
  refine wpAnyH_take (i := 33) (oi := { dst := some 95, op := Op.load 3 (Operand.tmp 94), type := 3, pos := "law.go:118", after := #[{ on := 32, ground := Ground.data }, { on := 22, ground := Ground.guard }], guard := some (22, false) }) (v := ?v43) rfl (by kernel_rfl) (by kernel_rfl) (by kernel_rfl) (fun _ _ _ h => h) (Or.inl ⟨by rfl, ?hy43⟩) hHeld ?rest43
  case hy43 => (intro w' hSw; (try dsimp only at hSw); go_simp; (try with_reducible rfl))
  try simp only [Act.put, List.setIfInBounds_toArray, List.set_cons_zero, List.set_cons_succ]
  refine wpAnyH_ready (rs := [26]) (by kernel_rfl) (by simp) (AllReadyH.cons (o := { dst := some 88, op := Op.call { callee := Callee.value (Operand.func 13), args := #[Operand.tmp 85, Operand.tmp 87], argTypes := #[46, 5] }, type := 46, pos := "law.go:118", after := #[{ on := 23, ground := Ground.data }, { on := 25, ground := Ground.data }, { on := 22, ground := Ground.chain }, { on := 22, ground := Ground.guard }], guard := some (22, false) }) rfl (fun K hK => ?_) AllReadyH.nil)
  go_simp
  (with_reducible refine (CK.out _ B8.out).mono ?_)
  rintro e w9 ⟨rfl, s9⟩
  have B9 := Lib.hid (B8.out.trans (s9.below W1.heap.size))
  clear s9
  go_wp2_with fail
  refine hK.out _ _ (HC.out _ B9.out).2.2.2.2 (fun hHeld' => ?_)
  clear hK K hHeld
  have hHeld := hHeld'
  clear hHeld'
  try simp only [Act.put, List.setIfInBounds_toArray, List.set_cons_zero, List.set_cons_succ]
  refine wpAnyH_ready (rs := [34]) (by kernel_rfl) (by simp) (AllReadyH.cons (o := { dst := some 96, op := Op.call { callee := Callee.value (Operand.func 26), args := #[Operand.tmp 89, Operand.tmp 95], argTypes := #[25, 3] }, type := 46, pos := "law.go:118", after := #[{ on := 27, ground := Ground.data }, { on := 33, ground := Ground.data }, { on := 26, ground := Ground.chain }, { on := 22, ground := Ground.guard }], guard := some (22, false) }) rfl (fun K hK => ?_) AllReadyH.nil)
  go_simp
  (with_reducible refine ((CD.out _ B9.out).2.2).mono ?_)
  rintro e w10 ⟨rfl, hw10⟩
  have B10 := Lib.hid (show Below W1.heap.size W1 w10 by rw [hw10]; exact B9.out)
  clear hw10
  go_wp2_with fail
  refine hK.out _ _ (HC.out _ B10.out).2.2.2.2 (fun hHeld' => ?_)
  clear hK K hHeld
  have hHeld := hHeld'
  clear hHeld'
  try simp only [Act.put, List.setIfInBounds_toArray, List.set_cons_zero, List.set_cons_succ]
  refine wpAnyH_take (i := 35) (oi := { dst := some 97, op := Op.binOp BinOp.neq 46 (Operand.tmp 88) (Operand.tmp 96) 46, type := 4, pos := "law.go:118", after := #[{ on := 26, ground := Ground.data }, { on := 34, ground := Ground.data }, { on := 22, ground := Ground.guard }], guard := some (22, false) }) (v := ?v44) rfl (by kernel_rfl) (by kernel_rfl) (by kernel_rfl) (fun _ _ _ h => h) (Or.inl ⟨by rfl, ?hy44⟩) hHeld ?rest44
  case hy44 => (intro w' hSw; (try dsimp only at hSw); go_simp; (try with_reducible rfl))
  try simp only [Act.put, List.setIfInBounds_toArray, List.set_cons_zero, List.set_cons_succ]
  refine wpAnyH_take (i := 36) (oi := { dst := some 98, op := Op.pick (Operand.tmp 84) (Operand.const (Value.bool true)) (Operand.tmp 97), type := 4, pos := "law.go:118", after := #[{ on := 22, ground := Ground.data }, { on := 35, ground := Ground.data }], guard := none }) (v := ?v45) rfl (by kernel_rfl) (by kernel_rfl) (by kernel_rfl) (fun _ _ _ h => h) (Or.inl ⟨by rfl, ?hy45⟩) hHeld ?rest45
  case hy45 => (intro w' hSw; (try dsimp only at hSw); go_simp; (try with_reducible rfl))
  try simp only [Act.put, List.setIfInBounds_toArray, List.set_cons_zero, List.set_cons_succ]
  refine wpAnyH_done (by kernel_rfl) ?_ _
  go_wp2_with fail
  have HS9 := Lib.hid (fun (V : World) (q : Below W1.heap.size W1 V) => show V.rangeAt w.heap.size 0 L ∧ V.cell? ⟨w.heap.size, 0, none⟩ = some (.int .u64 ow) ∧ V.cell? ⟨w.heap.size, 2, none⟩ = some (.slice A n c) ∧ V.cell? ⟨w.heap.size, 3, none⟩ = some (.bool hs) ∧ V.cell? ⟨w.heap.size, 4, none⟩ = some (.int .u64 vv) from
    ⟨HR.out V q, (HC.out V q).1, (HC.out V q).2.1, (HC.out V q).2.2.1, (HC.out V q).2.2.2.1⟩)
  refine wp_region_held_drew (S := (fun w' => w'.rangeAt w.heap.size 0 L ∧ w'.cell? ⟨w.heap.size, 0, none⟩ = some (.int .u64 ow) ∧ w'.cell? ⟨w.heap.size, 2, none⟩ = some (.slice A n c) ∧ w'.cell? ⟨w.heap.size, 3, none⟩ = some (.bool hs) ∧ w'.cell? ⟨w.heap.size, 4, none⟩ = some (.int .u64 vv))) (by kernel_rfl) (HS9.out _ B10.out.drew) (fun hHeld => ?_)
  refine wpAnyH_take (i := 0) (oi := { dst := some 99, op := Op.move (Operand.tmp 7), type := 46, pos := "law.go:121", after := #[], guard := none }) (v := ?v46) rfl (by kernel_rfl) (by kernel_rfl) (by kernel_rfl) (fun _ _ _ h => h) (Or.inl ⟨by rfl, ?hy46⟩) hHeld ?rest46
  case hy46 => (intro w' hSw; (try dsimp only at hSw); go_simp; (try with_reducible rfl))
  try simp only [Act.put, List.setIfInBounds_toArray, List.set_cons_zero, List.set_cons_succ]
  refine wpAnyH_take (i := 2) (oi := { dst := some 101, op := Op.fieldAddr 59 (Operand.tmp 8) 0, type := 0, pos := "law.go:121", after := #[], guard := none }) (v := ?v47) rfl (by kernel_rfl) (by kernel_rfl) (by kernel_rfl) (fun _ _ _ h => h) (Or.inl ⟨by rfl, ?hy47⟩) hHeld ?rest47
  case hy47 => (intro w' hSw; (try dsimp only at hSw); go_simp; (try with_reducible rfl))
  try simp only [Act.put, List.setIfInBounds_toArray, List.set_cons_zero, List.set_cons_succ]
  refine wpAnyH_take (i := 3) (oi := { dst := some 102, op := Op.load 39 (Operand.tmp 101), type := 39, pos := "law.go:121", after := #[{ on := 2, ground := Ground.data }], guard := none }) (v := ?v48) rfl (by kernel_rfl) (by kernel_rfl) (by kernel_rfl) (fun _ _ _ h => h) (Or.inl ⟨by rfl, ?hy48⟩) hHeld ?rest48
  case hy48 => (intro w' hSw; (try dsimp only at hSw); go_simp; (try with_reducible rfl))
  try simp only [Act.put, List.setIfInBounds_toArray, List.set_cons_zero, List.set_cons_succ]
  refine wpAnyH_ready (rs := [1]) (by kernel_rfl) (by simp) (AllReadyH.cons (o := { dst := some 100, op := Op.call { callee := Callee.value (Operand.func 27), args := #[Operand.tmp 99], argTypes := #[46] }, type := 39, pos := "law.go:121", after := #[{ on := 0, ground := Ground.data }], guard := none }) rfl (fun K hK => ?_) AllReadyH.nil)
  go_simp
  (with_reducible refine (CO.out _ B10.out.drew).mono ?_)
  rintro e w11 ⟨rfl, hw11⟩
  have B11 := Lib.hid (show Below W1.heap.size W1 w11 by rw [hw11]; exact B10.out.drew)
  clear hw11
  go_wp2_with fail
  refine hK.out _ _ (HS9.out _ B11.out) (fun hHeld' => ?_)
  clear hK K hHeld
  have hHeld := hHeld'
  clear hHeld'
  try simp only [Act.put, List.setIfInBounds_toArray, List.set_cons_zero, List.set_cons_succ]
  refine wpAnyH_take (i := 4) (oi := { dst := some 103, op := Op.binOp BinOp.eql 39 (Operand.tmp 100) (Operand.tmp 102) 39, type := 4, pos := "law.go:121", after := #[{ on := 1, ground := Ground.data }, { on := 3, ground := Ground.data }], guard := none }) (v := ?v49) rfl (by kernel_rfl) (by kernel_rfl) (by kernel_rfl) (fun _ _ _ h => h) (Or.inl ⟨by rfl, ?hy49⟩) hHeld ?rest49
  case hy49 => (intro w' hSw; (try dsimp only at hSw); go_simp; (try with_reducible rfl))
  try simp only [Act.put, List.setIfInBounds_toArray, List.set_cons_zero, List.set_cons_succ]
  refine wpAnyH_take (i := 5) (oi := { dst := some 104, op := Op.move (Operand.tmp 103), type := 4, pos := "law.go:121", after := #[{ on := 4, ground := Ground.data }, { on := 1, ground := Ground.chain }], guard := none }) (v := ?v50) rfl (by kernel_rfl) (by kernel_rfl) (by kernel_rfl) (fun _ _ _ h => h) (Or.inl ⟨by rfl, ?hy50⟩) hHeld ?rest50
  case hy50 => (intro w' hSw; (try dsimp only at hSw); go_simp; (try with_reducible rfl))
  try simp only [Act.put, List.setIfInBounds_toArray, List.set_cons_zero, List.set_cons_succ]
  refine wpAnyH_take (i := 6) (oi := { dst := some 105, op := Op.move (Operand.tmp 7), type := 46, pos := "law.go:121", after := #[{ on := 5, ground := Ground.guard }], guard := some (5, true) }) (v := ?v51) rfl (by kernel_rfl) (by kernel_rfl) (by kernel_rfl) (fun _ _ _ h => h) (Or.inl ⟨by rfl, ?hy51⟩) hHeld ?rest51
  case hy51 => (intro w' hSw; (try dsimp only at hSw); go_simp; (try with_reducible rfl))
  try simp only [Act.put, List.setIfInBounds_toArray, List.set_cons_zero, List.set_cons_succ]
  refine wpAnyH_take (i := 8) (oi := { dst := some 107, op := Op.fieldAddr 59 (Operand.tmp 8) 2, type := 0, pos := "law.go:121", after := #[{ on := 5, ground := Ground.guard }], guard := some (5, true) }) (v := ?v52) rfl (by kernel_rfl) (by kernel_rfl) (by kernel_rfl) (fun _ _ _ h => h) (Or.inl ⟨by rfl, ?hy52⟩) hHeld ?rest52
  case hy52 => (intro w' hSw; (try dsimp only at hSw); go_simp; (try with_reducible rfl))
  try simp only [Act.put, List.setIfInBounds_toArray, List.set_cons_zero, List.set_cons_succ]
  refine wpAnyH_take (i := 9) (oi := { dst := some 108, op := Op.load 38 (Operand.tmp 107), type := 38, pos := "law.go:121", after := #[{ on := 8, ground := Ground.data }, { on := 5, ground := Ground.guard }], guard := some (5, true) }) (v := ?v53) rfl (by kernel_rfl) (by kernel_rfl) (by kernel_rfl) (fun _ _ _ h => h) (Or.inl ⟨by rfl, ?hy53⟩) hHeld ?rest53
  case hy53 => (intro w' hSw; (try dsimp only at hSw); go_simp; (try with_reducible rfl))
  try simp only [Act.put, List.setIfInBounds_toArray, List.set_cons_zero, List.set_cons_succ]
  refine wpAnyH_ready (rs := [7]) (by kernel_rfl) (by simp) (AllReadyH.cons (o := { dst := some 106, op := Op.call { callee := Callee.value (Operand.func 29), args := #[Operand.tmp 105], argTypes := #[46] }, type := 38, pos := "law.go:121", after := #[{ on := 6, ground := Ground.data }, { on := 5, ground := Ground.chain }, { on := 5, ground := Ground.guard }], guard := some (5, true) }) rfl (fun K hK => ?_) AllReadyH.nil)
  go_simp
  (with_reducible refine (CA.out _ B11.out).mono ?_)
  rintro e w12 ⟨A9, c9, rfl, z1, _, z3⟩
  have B12 := Lib.hid (B11.out.trans (z3.mono B11.out.size))
  have Z12 := Lib.hid z1
  clear z1 z3
  go_wp2_with fail
  refine hK.out _ _ (HS9.out _ B12.out) (fun hHeld' => ?_)
  clear hK K hHeld
  have hHeld := hHeld'
  clear hHeld'
  try simp only [Act.put, List.setIfInBounds_toArray, List.set_cons_zero, List.set_cons_succ]
  refine wpAnyH_ready (rs := [10]) (by kernel_rfl) (by simp) (AllReadyH.cons (o := { dst := some 109, op := Op.call { callee := Callee.value (Operand.func 28), args := #[Operand.tmp 106, Operand.tmp 108], argTypes := #[38, 38] }, type := 4, pos := "law.go:121", after := #[{ on := 7, ground := Ground.data }, { on := 9, ground := Ground.data }, { on := 7, ground := Ground.chain }, { on := 5, ground := Ground.guard }], guard := some (5, true) }) rfl (fun K hK => ?_) AllReadyH.nil)
  go_simp
  (with_reducible refine (rsame_any A9 A pl.length n c9 c w12.heap.size pl pl w12 Z12.out (HBy.out _ B12.out)).mono ?_)
  rintro e w13 ⟨rfl, sq⟩
  rw [show sameB pl pl = true by simp [sameB]]
  have B13 := Lib.hid (B12.out.trans (sq.below W1.heap.size))
  clear sq
  go_wp2_with fail
  refine hK.out _ _ (HS9.out _ B13.out) (fun hHeld' => ?_)
  clear hK K hHeld
  have hHeld := hHeld'
  clear hHeld'
  try simp only [Act.put, List.setIfInBounds_toArray, List.set_cons_zero, List.set_cons_succ]
  refine wpAnyH_take (i := 11) (oi := { dst := some 110, op := Op.pick (Operand.tmp 104) (Operand.tmp 109) (Operand.const (Value.bool false)), type := 4, pos := "law.go:121", after := #[{ on := 5, ground := Ground.data }, { on := 10, ground := Ground.data }], guard := none }) (v := ?v54) rfl (by kernel_rfl) (by kernel_rfl) (by kernel_rfl) (fun _ _ _ h => h) (Or.inl ⟨by rfl, ?hy54⟩) hHeld ?rest54
  case hy54 => (intro w' hSw; (try dsimp only at hSw); go_simp; (try with_reducible rfl))
  try simp only [Act.put, List.setIfInBounds_toArray, List.set_cons_zero, List.set_cons_succ]
  refine wpAnyH_take (i := 12) (oi := { dst := some 111, op := Op.move (Operand.tmp 110), type := 4, pos := "law.go:121", after := #[{ on := 11, ground := Ground.data }, { on := 10, ground := Ground.chain }], guard := none }) (v := ?v55) rfl (by kernel_rfl) (by kernel_rfl) (by kernel_rfl) (fun _ _ _ h => h) (Or.inl ⟨by rfl, ?hy55⟩) hHeld ?rest55
  case hy55 => (intro w' hSw; (try dsimp only at hSw); go_simp; (try with_reducible rfl))
  try simp only [Act.put, List.setIfInBounds_toArray, List.set_cons_zero, List.set_cons_succ]
  refine wpAnyH_take (i := 13) (oi := { dst := some 112, op := Op.move (Operand.tmp 10), type := 4, pos := "law.go:121", after := #[{ on := 12, ground := Ground.guard }], guard := some (12, true) }) (v := ?v56) rfl (by kernel_rfl) (by kernel_rfl) (by kernel_rfl) (fun _ _ _ h => h) (Or.inl ⟨by rfl, ?hy56⟩) hHeld ?rest56
  case hy56 => (intro w' hSw; (try dsimp only at hSw); go_simp; (try with_reducible rfl))
  try simp only [Act.put, List.setIfInBounds_toArray, List.set_cons_zero, List.set_cons_succ]
  refine wpAnyH_take (i := 14) (oi := { dst := some 113, op := Op.fieldAddr 59 (Operand.tmp 8) 3, type := 0, pos := "law.go:121", after := #[{ on := 12, ground := Ground.guard }], guard := some (12, true) }) (v := ?v57) rfl (by kernel_rfl) (by kernel_rfl) (by kernel_rfl) (fun _ _ _ h => h) (Or.inl ⟨by rfl, ?hy57⟩) hHeld ?rest57
  case hy57 => (intro w' hSw; (try dsimp only at hSw); go_simp; (try with_reducible rfl))
  try simp only [Act.put, List.setIfInBounds_toArray, List.set_cons_zero, List.set_cons_succ]
  refine wpAnyH_take (i := 15) (oi := { dst := some 114, op := Op.load 4 (Operand.tmp 113), type := 4, pos := "law.go:121", after := #[{ on := 14, ground := Ground.data }, { on := 12, ground := Ground.guard }], guard := some (12, true) }) (v := ?v58) rfl (by kernel_rfl) (by kernel_rfl) (by kernel_rfl) (fun _ _ _ h => h) (Or.inl ⟨by rfl, ?hy58⟩) hHeld ?rest58
  case hy58 => (intro w' hSw; (try dsimp only at hSw); go_simp; (try with_reducible rfl))
  try simp only [Act.put, List.setIfInBounds_toArray, List.set_cons_zero, List.set_cons_succ]
  refine wpAnyH_take (i := 16) (oi := { dst := some 115, op := Op.binOp BinOp.eql 4 (Operand.tmp 112) (Operand.tmp 114) 4, type := 4, pos := "law.go:121", after := #[{ on := 13, ground := Ground.data }, { on := 15, ground := Ground.data }, { on := 12, ground := Ground.guard }], guard := some (12, true) }) (v := ?v59) rfl (by kernel_rfl) (by kernel_rfl) (by kernel_rfl) (fun _ _ _ h => h) (Or.inl ⟨by rfl, ?hy59⟩) hHeld ?rest59
  case hy59 => (intro w' hSw; (try dsimp only at hSw); go_simp; (try with_reducible rfl))
  try simp only [Act.put, List.setIfInBounds_toArray, List.set_cons_zero, List.set_cons_succ]
  refine wpAnyH_take (i := 17) (oi := { dst := some 116, op := Op.pick (Operand.tmp 111) (Operand.tmp 115) (Operand.const (Value.bool false)), type := 4, pos := "law.go:121", after := #[{ on := 12, ground := Ground.data }, { on := 16, ground := Ground.data }], guard := none }) (v := ?v60) rfl (by kernel_rfl) (by kernel_rfl) (by kernel_rfl) (fun _ _ _ h => h) (Or.inl ⟨by rfl, ?hy60⟩) hHeld ?rest60
  case hy60 => (intro w' hSw; (try dsimp only at hSw); go_simp; (try with_reducible rfl))
  try simp only [Act.put, List.setIfInBounds_toArray, List.set_cons_zero, List.set_cons_succ]
  refine wpAnyH_take (i := 18) (oi := { dst := some 117, op := Op.move (Operand.tmp 116), type := 4, pos := "law.go:121", after := #[{ on := 17, ground := Ground.data }, { on := 12, ground := Ground.chain }], guard := none }) (v := ?v61) rfl (by kernel_rfl) (by kernel_rfl) (by kernel_rfl) (fun _ _ _ h => h) (Or.inl ⟨by rfl, ?hy61⟩) hHeld ?rest61
  case hy61 => (intro w' hSw; (try dsimp only at hSw); go_simp; (try with_reducible rfl))
  try simp only [Act.put, List.setIfInBounds_toArray, List.set_cons_zero, List.set_cons_succ]
  refine wpAnyH_take (i := 19) (oi := { dst := some 118, op := Op.move (Operand.tmp 9), type := 39, pos := "law.go:121", after := #[{ on := 18, ground := Ground.guard }], guard := some (18, true) }) (v := ?v62) rfl (by kernel_rfl) (by kernel_rfl) (by kernel_rfl) (fun _ _ _ h => h) (Or.inl ⟨by rfl, ?hy62⟩) hHeld ?rest62
  case hy62 => (intro w' hSw; (try dsimp only at hSw); go_simp; (try with_reducible rfl))
  try simp only [Act.put, List.setIfInBounds_toArray, List.set_cons_zero, List.set_cons_succ]
  refine wpAnyH_take (i := 20) (oi := { dst := some 119, op := Op.fieldAddr 59 (Operand.tmp 8) 4, type := 0, pos := "law.go:121", after := #[{ on := 18, ground := Ground.guard }], guard := some (18, true) }) (v := ?v63) rfl (by kernel_rfl) (by kernel_rfl) (by kernel_rfl) (fun _ _ _ h => h) (Or.inl ⟨by rfl, ?hy63⟩) hHeld ?rest63
  case hy63 => (intro w' hSw; (try dsimp only at hSw); go_simp; (try with_reducible rfl))
  try simp only [Act.put, List.setIfInBounds_toArray, List.set_cons_zero, List.set_cons_succ]
  refine wpAnyH_take (i := 21) (oi := { dst := some 120, op := Op.load 39 (Operand.tmp 119), type := 39, pos := "law.go:121", after := #[{ on := 20, ground := Ground.data }, { on := 18, ground := Ground.guard }], guard := some (18, true) }) (v := ?v64) rfl (by kernel_rfl) (by kernel_rfl) (by kernel_rfl) (fun _ _ _ h => h) (Or.inl ⟨by rfl, ?hy64⟩) hHeld ?rest64
  case hy64 => (intro w' hSw; (try dsimp only at hSw); go_simp; (try with_reducible rfl))
  try simp only [Act.put, List.setIfInBounds_toArray, List.set_cons_zero, List.set_cons_succ]
  refine wpAnyH_take (i := 22) (oi := { dst := some 121, op := Op.binOp BinOp.eql 39 (Operand.tmp 118) (Operand.tmp 120) 39, type := 4, pos := "law.go:121", after := #[{ on := 19, ground := Ground.data }, { on := 21, ground := Ground.data }, { on := 18, ground := Ground.guard }], guard := some (18, true) }) (v := ?v65) rfl (by kernel_rfl) (by kernel_rfl) (by kernel_rfl) (fun _ _ _ h => h) (Or.inl ⟨by rfl, ?hy65⟩) hHeld ?rest65
  case hy65 => (intro w' hSw; (try dsimp only at hSw); go_simp; (try with_reducible rfl))
  try simp only [Act.put, List.setIfInBounds_toArray, List.set_cons_zero, List.set_cons_succ]
  refine wpAnyH_take (i := 23) (oi := { dst := some 122, op := Op.pick (Operand.tmp 117) (Operand.tmp 121) (Operand.const (Value.bool false)), type := 4, pos := "law.go:121", after := #[{ on := 18, ground := Ground.data }, { on := 22, ground := Ground.data }], guard := none }) (v := ?v66) rfl (by kernel_rfl) (by kernel_rfl) (by kernel_rfl) (fun _ _ _ h => h) (Or.inl ⟨by rfl, ?hy66⟩) hHeld ?rest66
  case hy66 => (intro w' hSw; (try dsimp only at hSw); go_simp; (try with_reducible rfl))
  try simp only [Act.put, List.setIfInBounds_toArray, List.set_cons_zero, List.set_cons_succ]
  refine wpAnyH_take (i := 24) (oi := { dst := some 123, op := Op.move (Operand.tmp 122), type := 4, pos := "law.go:121", after := #[{ on := 23, ground := Ground.data }, { on := 18, ground := Ground.chain }], guard := none }) (v := ?v67) rfl (by kernel_rfl) (by kernel_rfl) (by kernel_rfl) (fun _ _ _ h => h) (Or.inl ⟨by rfl, ?hy67⟩) hHeld ?rest67
  case hy67 => (intro w' hSw; (try dsimp only at hSw); go_simp; (try with_reducible rfl))
  try simp only [Act.put, List.setIfInBounds_toArray, List.set_cons_zero, List.set_cons_succ]
  refine wpAnyH_take (i := 25) (oi := { dst := some 124, op := Op.move (Operand.tmp 7), type := 46, pos := "law.go:121", after := #[{ on := 24, ground := Ground.guard }], guard := some (24, true) }) (v := ?v68) rfl (by kernel_rfl) (by kernel_rfl) (by kernel_rfl) (fun _ _ _ h => h) (Or.inl ⟨by rfl, ?hy68⟩) hHeld ?rest68
  case hy68 => (intro w' hSw; (try dsimp only at hSw); go_simp; (try with_reducible rfl))
  try simp only [Act.put, List.setIfInBounds_toArray, List.set_cons_zero, List.set_cons_succ]
  refine wpAnyH_take (i := 27) (oi := { dst := some 126, op := Op.load 59 (Operand.tmp 8), type := 59, pos := "law.go:121", after := #[{ on := 24, ground := Ground.guard }], guard := some (24, true) }) (v := .agg L.toArray) rfl (by kernel_rfl) (by kernel_rfl) (by kernel_rfl) (fun _ _ _ h => h) (yieldsIf_load_mid (by rfl) 59 (.tmp 8) rfl w.heap.size 0 (by rfl) L _ (fun _ h => h.1) Tryz.underlying59 rfl HLn.out.sz) hHeld ?_
  try simp only [Act.put, List.setIfInBounds_toArray, List.set_cons_zero, List.set_cons_succ]
  refine wpAnyH_ready (rs := [26]) (by kernel_rfl) (by simp) (AllReadyH.cons (o := { dst := some 125, op := Op.call { callee := Callee.value (Operand.func 30), args := #[Operand.tmp 124], argTypes := #[46] }, type := 3, pos := "law.go:121", after := #[{ on := 25, ground := Ground.data }, { on := 24, ground := Ground.chain }, { on := 24, ground := Ground.guard }], guard := some (24, true) }) rfl (fun K hK => ?_) AllReadyH.nil)
  go_simp
  (with_reducible refine (CL.out _ B13.out).mono ?_)
  rintro e w14 ⟨rfl, sq⟩
  have B14 := Lib.hid (B13.out.trans (sq.below W1.heap.size))
  clear sq
  go_wp2_with fail
  refine hK.out _ _ (HS9.out _ B14.out) (fun hHeld' => ?_)
  clear hK K hHeld
  have hHeld := hHeld'
  clear hHeld'
  try simp only [Act.put, List.setIfInBounds_toArray, List.set_cons_zero, List.set_cons_succ]
  refine wpAnyH_ready (rs := [28]) (by kernel_rfl) (by simp) (AllReadyH.cons (o := { dst := some 127, op := Op.call { callee := Callee.value (Operand.func 31), args := #[Operand.tmp 126], argTypes := #[59] }, type := 3, pos := "law.go:121", after := #[{ on := 27, ground := Ground.data }, { on := 26, ground := Ground.chain }, { on := 24, ground := Ground.guard }], guard := some (24, true) }) rfl (fun K hK => ?_) AllReadyH.nil)
  go_simp
  (with_reducible refine (RL.out _).mono ?_)
  rintro e w15 ⟨rfl, hq⟩
  have B15 := Lib.hid (B14.out.trans (hq.mono B14.out.size))
  clear hq
  go_wp2_with fail
  refine hK.out _ _ (HS9.out _ B15.out) (fun hHeld' => ?_)
  clear hK K hHeld
  have hHeld := hHeld'
  clear hHeld'
  try simp only [Act.put, List.setIfInBounds_toArray, List.set_cons_zero, List.set_cons_succ]
  refine wpAnyH_take (i := 29) (oi := { dst := some 128, op := Op.binOp BinOp.eql 3 (Operand.tmp 125) (Operand.tmp 127) 3, type := 4, pos := "law.go:121", after := #[{ on := 26, ground := Ground.data }, { on := 28, ground := Ground.data }, { on := 24, ground := Ground.guard }], guard := some (24, true) }) (v := ?v69) rfl (by kernel_rfl) (by kernel_rfl) (by kernel_rfl) (fun _ _ _ h => h) (Or.inl ⟨by rfl, ?hy69⟩) hHeld ?rest69
  case hy69 => (intro w' hSw; (try dsimp only at hSw); go_simp; (try with_reducible rfl))
  try simp only [Act.put, List.setIfInBounds_toArray, List.set_cons_zero, List.set_cons_succ]
  refine wpAnyH_take (i := 30) (oi := { dst := some 129, op := Op.pick (Operand.tmp 123) (Operand.tmp 128) (Operand.const (Value.bool false)), type := 4, pos := "law.go:121", after := #[{ on := 24, ground := Ground.data }, { on := 29, ground := Ground.data }], guard := none }) (v := ?v70) rfl (by kernel_rfl) (by kernel_rfl) (by kernel_rfl) (fun _ _ _ h => h) (Or.inl ⟨by rfl, ?hy70⟩) hHeld ?rest70
  case hy70 => (intro w' hSw; (try dsimp only at hSw); go_simp; (try with_reducible rfl))
  try simp only [Act.put, List.setIfInBounds_toArray, List.set_cons_zero, List.set_cons_succ]
  refine wpAnyH_take (i := 31) (oi := { dst := some 130, op := Op.move (Operand.tmp 129), type := 4, pos := "law.go:121", after := #[{ on := 30, ground := Ground.data }, { on := 28, ground := Ground.chain }], guard := none }) (v := ?v71) rfl (by kernel_rfl) (by kernel_rfl) (by kernel_rfl) (fun _ _ _ h => h) (Or.inl ⟨by rfl, ?hy71⟩) hHeld ?rest71
  case hy71 => (intro w' hSw; (try dsimp only at hSw); go_simp; (try with_reducible rfl))
  try simp only [Act.put, List.setIfInBounds_toArray, List.set_cons_zero, List.set_cons_succ]
  refine wpAnyH_take (i := 32) (oi := { dst := some 131, op := Op.move (Operand.tmp 7), type := 46, pos := "law.go:121", after := #[{ on := 31, ground := Ground.guard }], guard := some (31, true) }) (v := ?v72) rfl (by kernel_rfl) (by kernel_rfl) (by kernel_rfl) (fun _ _ _ h => h) (Or.inl ⟨by rfl, ?hy72⟩) hHeld ?rest72
  case hy72 => (intro w' hSw; (try dsimp only at hSw); go_simp; (try with_reducible rfl))
  try simp only [Act.put, List.setIfInBounds_toArray, List.set_cons_zero, List.set_cons_succ]
  refine wpAnyH_take (i := 34) (oi := { dst := some 133, op := Op.load 59 (Operand.tmp 8), type := 59, pos := "law.go:121", after := #[{ on := 31, ground := Ground.guard }], guard := some (31, true) }) (v := .agg L.toArray) rfl (by kernel_rfl) (by kernel_rfl) (by kernel_rfl) (fun _ _ _ h => h) (yieldsIf_load_mid (by rfl) 59 (.tmp 8) rfl w.heap.size 0 (by rfl) L _ (fun _ h => h.1) Tryz.underlying59 rfl HLn.out.sz) hHeld ?_
  try simp only [Act.put, List.setIfInBounds_toArray, List.set_cons_zero, List.set_cons_succ]
  refine wpAnyH_ready (rs := [33]) (by kernel_rfl) (by simp) (AllReadyH.cons (o := { dst := some 132, op := Op.call { callee := Callee.value (Operand.func 16), args := #[Operand.tmp 131], argTypes := #[46] }, type := 3, pos := "law.go:121", after := #[{ on := 32, ground := Ground.data }, { on := 31, ground := Ground.chain }, { on := 31, ground := Ground.guard }], guard := some (31, true) }) rfl (fun K hK => ?_) AllReadyH.nil)
  go_simp
  (with_reducible refine (CC.out _ B15.out).mono ?_)
  rintro e w16 ⟨rfl, sq⟩
  have B16 := Lib.hid (B15.out.trans (sq.below W1.heap.size))
  clear sq
  go_wp2_with fail
  refine hK.out _ _ (HS9.out _ B16.out) (fun hHeld' => ?_)
  clear hK K hHeld
  have hHeld := hHeld'
  clear hHeld'
  try simp only [Act.put, List.setIfInBounds_toArray, List.set_cons_zero, List.set_cons_succ]
  refine wpAnyH_ready (rs := [35]) (by kernel_rfl) (by simp) (AllReadyH.cons (o := { dst := some 134, op := Op.call { callee := Callee.value (Operand.func 32), args := #[Operand.tmp 133], argTypes := #[59] }, type := 3, pos := "law.go:121", after := #[{ on := 34, ground := Ground.data }, { on := 33, ground := Ground.chain }, { on := 31, ground := Ground.guard }], guard := some (31, true) }) rfl (fun K hK => ?_) AllReadyH.nil)
  go_simp
  (with_reducible refine (RC.out _).mono ?_)
  rintro e w17 ⟨rfl, hq⟩
  have B17 := Lib.hid (B16.out.trans (hq.mono B16.out.size))
  clear hq
  go_wp2_with fail
  refine hK.out _ _ (HS9.out _ B17.out) (fun hHeld' => ?_)
  clear hK K hHeld
  have hHeld := hHeld'
  clear hHeld'
  try simp only [Act.put, List.setIfInBounds_toArray, List.set_cons_zero, List.set_cons_succ]
  refine wpAnyH_take (i := 36) (oi := { dst := some 135, op := Op.binOp BinOp.eql 3 (Operand.tmp 132) (Operand.tmp 134) 3, type := 4, pos := "law.go:121", after := #[{ on := 33, ground := Ground.data }, { on := 35, ground := Ground.data }, { on := 31, ground := Ground.guard }], guard := some (31, true) }) (v := ?v73) rfl (by kernel_rfl) (by kernel_rfl) (by kernel_rfl) (fun _ _ _ h => h) (Or.inl ⟨by rfl, ?hy73⟩) hHeld ?rest73
  case hy73 => (intro w' hSw; (try dsimp only at hSw); go_simp; (try with_reducible rfl))
  try simp only [Act.put, List.setIfInBounds_toArray, List.set_cons_zero, List.set_cons_succ]
  refine wpAnyH_take (i := 37) (oi := { dst := some 136, op := Op.pick (Operand.tmp 130) (Operand.tmp 135) (Operand.const (Value.bool false)), type := 4, pos := "law.go:121", after := #[{ on := 31, ground := Ground.data }, { on := 36, ground := Ground.data }], guard := none }) (v := ?v74) rfl (by kernel_rfl) (by kernel_rfl) (by kernel_rfl) (fun _ _ _ h => h) (Or.inl ⟨by rfl, ?hy74⟩) hHeld ?rest74
  case hy74 => (intro w' hSw; (try dsimp only at hSw); go_simp; (try with_reducible rfl))
  try simp only [Act.put, List.setIfInBounds_toArray, List.set_cons_zero, List.set_cons_succ]
  refine wpAnyH_take (i := 38) (oi := { dst := some 137, op := Op.move (Operand.tmp 136), type := 4, pos := "law.go:121", after := #[{ on := 37, ground := Ground.data }, { on := 35, ground := Ground.chain }], guard := none }) (v := ?v75) rfl (by kernel_rfl) (by kernel_rfl) (by kernel_rfl) (fun _ _ _ h => h) (Or.inl ⟨by rfl, ?hy75⟩) hHeld ?rest75
  case hy75 => (intro w' hSw; (try dsimp only at hSw); go_simp; (try with_reducible rfl))
  try simp only [Act.put, List.setIfInBounds_toArray, List.set_cons_zero, List.set_cons_succ]
  refine wpAnyH_take (i := 39) (oi := { dst := some 138, op := Op.move (Operand.tmp 7), type := 46, pos := "law.go:121", after := #[{ on := 38, ground := Ground.guard }], guard := some (38, true) }) (v := ?v76) rfl (by kernel_rfl) (by kernel_rfl) (by kernel_rfl) (fun _ _ _ h => h) (Or.inl ⟨by rfl, ?hy76⟩) hHeld ?rest76
  case hy76 => (intro w' hSw; (try dsimp only at hSw); go_simp; (try with_reducible rfl))
  try simp only [Act.put, List.setIfInBounds_toArray, List.set_cons_zero, List.set_cons_succ]
  refine wpAnyH_take (i := 41) (oi := { dst := some 140, op := Op.load 59 (Operand.tmp 8), type := 59, pos := "law.go:121", after := #[{ on := 38, ground := Ground.guard }], guard := some (38, true) }) (v := .agg L.toArray) rfl (by kernel_rfl) (by kernel_rfl) (by kernel_rfl) (fun _ _ _ h => h) (yieldsIf_load_mid (by rfl) 59 (.tmp 8) rfl w.heap.size 0 (by rfl) L _ (fun _ h => h.1) Tryz.underlying59 rfl HLn.out.sz) hHeld ?_
  try simp only [Act.put, List.setIfInBounds_toArray, List.set_cons_zero, List.set_cons_succ]
  refine wpAnyH_ready (rs := [40]) (by kernel_rfl) (by simp) (AllReadyH.cons (o := { dst := some 139, op := Op.call { callee := Callee.value (Operand.func 15), args := #[Operand.tmp 138], argTypes := #[46] }, type := 3, pos := "law.go:121", after := #[{ on := 39, ground := Ground.data }, { on := 38, ground := Ground.chain }, { on := 38, ground := Ground.guard }], guard := some (38, true) }) rfl (fun K hK => ?_) AllReadyH.nil)
  go_simp
  (with_reducible refine (CI.out _ B17.out).mono ?_)
  rintro e w18 ⟨rfl, sq⟩
  have B18 := Lib.hid (B17.out.trans (sq.below W1.heap.size))
  clear sq
  go_wp2_with fail
  refine hK.out _ _ (HS9.out _ B18.out) (fun hHeld' => ?_)
  clear hK K hHeld
  have hHeld := hHeld'
  clear hHeld'
  try simp only [Act.put, List.setIfInBounds_toArray, List.set_cons_zero, List.set_cons_succ]
  refine wpAnyH_ready (rs := [42]) (by kernel_rfl) (by simp) (AllReadyH.cons (o := { dst := some 141, op := Op.call { callee := Callee.value (Operand.func 33), args := #[Operand.tmp 140], argTypes := #[59] }, type := 3, pos := "law.go:121", after := #[{ on := 41, ground := Ground.data }, { on := 40, ground := Ground.chain }, { on := 38, ground := Ground.guard }], guard := some (38, true) }) rfl (fun K hK => ?_) AllReadyH.nil)
  go_simp
  (with_reducible refine (RI.out _).mono ?_)
  rintro e w19 ⟨rfl, hq⟩
  have B19 := Lib.hid (B18.out.trans (hq.mono B18.out.size))
  clear hq
  go_wp2_with fail
  refine hK.out _ _ (HS9.out _ B19.out) (fun hHeld' => ?_)
  clear hK K hHeld
  have hHeld := hHeld'
  clear hHeld'
  try simp only [Act.put, List.setIfInBounds_toArray, List.set_cons_zero, List.set_cons_succ]
  refine wpAnyH_take (i := 43) (oi := { dst := some 142, op := Op.binOp BinOp.eql 3 (Operand.tmp 139) (Operand.tmp 141) 3, type := 4, pos := "law.go:121", after := #[{ on := 40, ground := Ground.data }, { on := 42, ground := Ground.data }, { on := 38, ground := Ground.guard }], guard := some (38, true) }) (v := ?v77) rfl (by kernel_rfl) (by kernel_rfl) (by kernel_rfl) (fun _ _ _ h => h) (Or.inl ⟨by rfl, ?hy77⟩) hHeld ?rest77
  case hy77 => (intro w' hSw; (try dsimp only at hSw); go_simp; (try with_reducible rfl))
  try simp only [Act.put, List.setIfInBounds_toArray, List.set_cons_zero, List.set_cons_succ]
  refine wpAnyH_take (i := 44) (oi := { dst := some 143, op := Op.pick (Operand.tmp 137) (Operand.tmp 142) (Operand.const (Value.bool false)), type := 4, pos := "law.go:121", after := #[{ on := 38, ground := Ground.data }, { on := 43, ground := Ground.data }], guard := none }) (v := ?v78) rfl (by kernel_rfl) (by kernel_rfl) (by kernel_rfl) (fun _ _ _ h => h) (Or.inl ⟨by rfl, ?hy78⟩) hHeld ?rest78
  case hy78 => (intro w' hSw; (try dsimp only at hSw); go_simp; (try with_reducible rfl))
  try simp only [Act.put, List.setIfInBounds_toArray, List.set_cons_zero, List.set_cons_succ]
  refine wpAnyH_take (i := 45) (oi := { dst := some 6, op := Op.assign (Operand.tmp 143), type := 4, pos := "law.go:121", after := #[{ on := 44, ground := Ground.data }, { on := 42, ground := Ground.chain }, { on := 0, ground := Ground.phase }, { on := 1, ground := Ground.phase }, { on := 2, ground := Ground.phase }, { on := 3, ground := Ground.phase }, { on := 4, ground := Ground.phase }, { on := 5, ground := Ground.phase }, { on := 6, ground := Ground.phase }, { on := 7, ground := Ground.phase }, { on := 8, ground := Ground.phase }, { on := 9, ground := Ground.phase }, { on := 10, ground := Ground.phase }, { on := 11, ground := Ground.phase }, { on := 12, ground := Ground.phase }, { on := 13, ground := Ground.phase }, { on := 14, ground := Ground.phase }, { on := 15, ground := Ground.phase }, { on := 16, ground := Ground.phase }, { on := 17, ground := Ground.phase }, { on := 18, ground := Ground.phase }, { on := 19, ground := Ground.phase }, { on := 20, ground := Ground.phase }, { on := 21, ground := Ground.phase }, { on := 22, ground := Ground.phase }, { on := 23, ground := Ground.phase }, { on := 24, ground := Ground.phase }, { on := 25, ground := Ground.phase }, { on := 26, ground := Ground.phase }, { on := 27, ground := Ground.phase }, { on := 28, ground := Ground.phase }, { on := 29, ground := Ground.phase }, { on := 30, ground := Ground.phase }, { on := 31, ground := Ground.phase }, { on := 32, ground := Ground.phase }, { on := 33, ground := Ground.phase }, { on := 34, ground := Ground.phase }, { on := 35, ground := Ground.phase }, { on := 36, ground := Ground.phase }, { on := 37, ground := Ground.phase }, { on := 38, ground := Ground.phase }, { on := 39, ground := Ground.phase }, { on := 40, ground := Ground.phase }, { on := 41, ground := Ground.phase }, { on := 42, ground := Ground.phase }, { on := 43, ground := Ground.phase }, { on := 44, ground := Ground.phase }], guard := none }) (v := ?v79) rfl (by kernel_rfl) (by kernel_rfl) (by kernel_rfl) (fun _ _ _ h => h) (Or.inl ⟨by rfl, ?hy79⟩) hHeld ?rest79
  case hy79 => (intro w' hSw; (try dsimp only at hSw); go_simp; (try with_reducible rfl))
  try simp only [Act.put, List.setIfInBounds_toArray, List.set_cons_zero, List.set_cons_succ]
  refine wpAnyH_done (by kernel_rfl) ?_ _
  go_wp2
  go_ret
  exact ⟨by simp, HBW.out.trans (B19.out.mono HBW.out.size)⟩
end Go.Proofs.YtgelmhldicmmdaaGreat
