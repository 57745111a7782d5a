/-
  near.first and near.last: the first pair of a tree, and its last one, behind some bytes.
-/
import Derived.Test.YtidiinededalmaaGreatNrWay
import Derived.Test.YtidiinededalmaaGreatPairE
namespace Go.Proofs.YtidiinededalmaaGreat
open Go.RowKit

theorem first_has {x : Nn} {k : Fo} (h : x.has = true) (l : List UInt8) : (olb (some (x, k)) l).head? = some (l ++ x.part, x.val) := by
  show (tlist x k l).head? = _
  rw [tlist_own]
  unfold ownL
  rw [if_pos h]
  rfl
theorem first_kid {x : Nn} {k : Fo} (h : x.has = false) (l : List UInt8) : olb (some (x, k)) l = k.list (l ++ x.part) := by
  show tlist x k l = _
  rw [tlist_own]
  unfold ownL
  rw [if_neg (by rw [h]; decide)]
  rfl
theorem first_none {x : Nn} {k : Fo} (h : x.has = false) (e : k.fst = none) (l : List UInt8) : (olb (some (x, k)) l).head? = none := by
  rw [first_kid h, Fo.fst_none e]
  rfl
theorem first_on {x : Nn} {k : Fo} (h : x.has = false) (hf : ofull (some (x, k))) {b : UInt8} {y : Nn} {j : Fo} (e : k.fst = some (b, y, j)) {l : List UInt8} (hM : ∀ q ∈ olb (some (x, k)) l, q.1.length ≤ 60000) :
    (olb (some (y, j)) ((l ++ x.part) ++ [b])).head? = (olb (some (x, k)) l).head? ∧ ofull (some (y, j)) ∧ ∀ q ∈ olb (some (y, j)) ((l ++ x.part) ++ [b]), q.1.length ≤ 60000 := by
  refine ⟨?_, Fo.fst_full hf.2 e, fun q hq => hM q ?_⟩
  · rw [first_kid h]
    exact (Fo.fst_head hf.2 e _).1.symm
  · rw [first_kid h]
    exact Fo.fst_mem e _ q hq
theorem last_none {x : Nn} {k : Fo} (e : k.lst = none) (l : List UInt8) : (olb (some (x, k)) l).getLast? = if x.has then some (l ++ x.part, x.val) else none := by
  show (tlist x k l).getLast? = _
  rw [tlist_own, Fo.lst_none e]
  unfold ownL
  cases x.has <;> simp [Fo.list]
theorem last_on {x : Nn} {k : Fo} (hf : ofull (some (x, k))) {b : UInt8} {y : Nn} {j : Fo} (e : k.lst = some (b, y, j)) {l : List UInt8} (hM : ∀ q ∈ olb (some (x, k)) l, q.1.length ≤ 60000) :
    (olb (some (y, j)) ((l ++ x.part) ++ [b])).getLast? = (olb (some (x, k)) l).getLast? ∧ ofull (some (y, j)) ∧ ∀ q ∈ olb (some (y, j)) ((l ++ x.part) ++ [b]), q.1.length ≤ 60000 := by
  obtain ⟨h1, h2⟩ := Fo.lst_last hf.2 e (l ++ x.part)
  refine ⟨?_, Fo.lst_full hf.2 e, fun q hq => hM q ?_⟩
  · show _ = (tlist x k l).getLast?
    rw [tlist_own, last_app h2]
    exact h1.symm
  · show q ∈ tlist x k l
    rw [tlist_own]
    exact List.mem_append_right _ (Fo.lst_mem e _ q hq)

theorem Kept.then_ {D D' : Nat → Prop} {a b c : World} (h : Kept D a b) (k : Kept D' b c) (hd : ∀ i, i < a.heap.size → D' i → D i) : Kept D a c :=
  ⟨k.os.trans h.os, k.tape.trans h.tape, k.output.trans h.output, Nat.le_trans h.size k.size, fun i hi hn => (k.block i (Nat.lt_of_lt_of_le hi h.size) (fun q => hn (hd i hi q))).trans (h.block i hi hn)⟩
def slLen : Value → Nat
  | .slice _ n _ => n
  | _ => 0
def endM (v0 v1 : Value) : Nat :=
  match v1 with
  | .pointer none => 0
  | _ => 70001 - slLen v0
/-- Where a walk to an end stands. -/
structure EndS (n₀ : Nat) (N : Nat → Prop) (W : World) (f : List KV → Option KV) (o : Option KV) (t : Option (Nn × Fo)) (q A : Option Addr) (m c : Nat) (l : List UInt8) (V : World) : Prop where
  is : f (olb t l) = o
  full : ofull t
  len : ∀ p ∈ olb t l, p.1.length ≤ 60000
  tre : OTre V (· < n₀) t q
  way : Wy V n₀ (fun i => N i ∨ W.heap.size ≤ i) A m c l
  kept : Kept N W V
set_option maxRecDepth 100000 in
set_option maxHeartbeats 4000000 in
theorem nfirst_any (n₀ : Nat) (N : Nat → Prop) (t : Option (Nn × Fo)) (p A : Option Addr) (n c : Nat) (l : List UInt8) (w : World) (hn₀ : n₀ ≤ w.heap.size) (ht : OTre w (· < n₀) t p) (hf : ofull t) (hM : ∀ q ∈ olb t l, q.1.length ≤ 60000) (hw : Wy w n₀ N A n c l) (hN : ∀ i, N i → i < w.heap.size) :
    Calls Tryz.prog 27 #[.slice A n c, .pointer p] w (NrPost N w (olb t l).head?) := by
  obtain ⟨o, ho⟩ : ∃ o, (olb t l).head? = o := ⟨_, rfl⟩
  rw [ho]
  obtain ⟨W, hW⟩ : ∃ W, w.alloc (.cells #[.slice none 0 0, .int .u64 0] 31) = W := ⟨_, rfl⟩
  have hb : Below w.heap.size w W := by rw [← hW]; exact (Below.refl _ _).alloc (Nat.le_refl _) _
  have hj : Blk W w.heap.size #[.slice none 0 0, .int .u64 0] := by rw [← hW]; exact Blk.new w _ _
  have hs : W.heap.size = w.heap.size + 1 := by rw [← hW]; simp
  have kW : Kept (fun _ => False) w W := Kept.of_below hb
  have hnW : n₀ ≤ W.heap.size := by omega
  have S0 := Lib.hid (show EndS n₀ N W List.head? o t p A n c l W from ⟨ho, hf, hM, otre_on ht (hb.mono hn₀), (hw.kept kW hn₀ (fun _ q => q.elim)).mono (fun i q => .inl q) (fun i q => q.elim (hw.lo i) (fun q => by omega)), Kept.refl _ _⟩)
  have HW := Lib.hid hW
  have HJ := Lib.hid (fun (V : World) (hV : Kept N W V) => hV.blk hj (fun q => by have := hN _ q; omega))
  have HZ := Lib.hid (fun (V : World) (hV : Kept N W V) => show n₀ ≤ V.heap.size ∧ w.heap.size < V.heap.size from by have := hV.size; omega)
  have HK := Lib.hid (fun (V : World) (hV : Kept N W V) => show Kept N w V from (kW.mono (fun _ q => q.elim)).trans hV)
  have HLO := Lib.hid (fun (V : World) (h : Kept N W V) => show ∀ i, ((N i ∨ W.heap.size ≤ i) ∨ V.heap.size ≤ i) → (N i ∨ W.heap.size ≤ i) from fun i q => q.elim id (fun q => .inr (Nat.le_trans h.size q)))
  clear hn₀ ht hf hM hw hN ho hb hj hs kW hW hnW
  go_enter Tryz.func27, Tryz.ntmps27
  go_wp2_with fail
  rw [HW.out]
  go_loopw [0, 1] (fun v0 v1 wr => ∃ (t' : Option (Nn × Fo)) (q A' : Option Addr) (m c' : Nat) (l' : List UInt8), v0 = .slice A' m c' ∧ v1 = .pointer q ∧ Hid (EndS n₀ N W List.head? o t' q A' m c' l' wr)) (fun v0 v1 _ => endM v0 v1)
  case atStart => exact ⟨t, p, A, n, c, l, rfl, rfl, S0⟩
  case round =>
    obtain ⟨t', q, A', m, c', l', rfl, rfl, HS⟩ := hrel
    clear S0
    cases t' with
    | none =>
      obtain rfl : q = none := HS.out.tre
      obtain rfl : none = o := HS.out.is
      have J1 := HJ.out wr HS.out.kept
      have c1 := J1.cell 0
      have c2 := J1.cell 1
      have z1 := J1.fz 0
      have z2 := J1.fz 1
      have HJ1 := Lib.hid J1
      clear J1
      go_wp2_with fail
      obtain ⟨t1, t2⟩ := two_set HJ1.out (.slice none 0 0) (.int .u64 0)
      exact close2e rfl rfl rfl rfl (pair_load t1) (NrPost.none_ ((HK.out wr HS.out.kept).trans' t2 (fun i hi e => by omega)))
    | some xk =>
      obtain ⟨x, k⟩ := xk
      obtain ⟨g, rfl, T⟩ := HS.out.tre
      have hml : l'.length = m := HS.out.way.len
      have hwl : l'.length + x.part.length ≤ 60000 := tlist_way HS.out.full.1 HS.out.len
      have hm6 : (m : Int) ≤ 65535 := by omega
      have HT := Lib.hid T
      have HWL := Lib.hid (show m + x.part.length ≤ 60000 by omega)
      obtain ⟨be, A1, ek, hN1, hI1⟩ := T.nod
      have HPT := Lib.hid (npart_any hN1)
      clear T hml hwl hN1 hI1
      go_wp2_with fail
      (with_reducible refine HPT.out.mono ?_)
      rintro e w2 ⟨A2, c2, rfl, y2, _, b2⟩
      have zr := (HZ.out wr HS.out.kept).1
      have T2 := HT.out.below (fun _ q => q) (b2.mono zr)
      have K2 : Kept N W w2 := HS.out.kept.then_ (Kept.of_below (D := fun _ => False) b2) (fun _ _ q => q.elim)
      obtain ⟨A3, c3, w3, hrun, wy3, k3⟩ := (HS.out.way.kept (Kept.of_below (D := fun _ => False) b2) zr (fun _ q => q.elim)).append (HZ.out w2 K2).1 (c1 := c2) y2 (by have := HWL.out; omega) rfl
      have K3 : Kept N W w3 := K2.then_ k3 (fun i hi q => q.elim id (fun q => by omega))
      have W3 := Lib.hid (wy3.mono (HLO.out w2 K2) (HS.out.way.lo))
      have T3 := Lib.hid (T2.below (fun _ q => q) (k3.below (HZ.out w2 K2).1 HS.out.way.lo))
      have HK3 := Lib.hid K3
      obtain ⟨l3, hl3⟩ : ∃ l3, l' ++ x.part = l3 := ⟨_, rfl⟩
      obtain ⟨m3, hm3⟩ : ∃ m3, m + x.part.length = m3 := ⟨_, rfl⟩
      rw [hl3, hm3] at W3
      rw [hm3] at hrun HWL
      have HL3 := Lib.hid (And.intro hl3 hm3)
      have HY3 := Lib.hid (W3.out.byt (HZ.out w3 HK3.out).1)
      clear HPT y2 b2 zr T2 K2 wy3 k3 K3 hl3 hm3
      go_wp2_with (at_builtin; refine Lib.wpList_append_run _ rfl _ _ _ _ rfl _ _ rfl rfl _ _ hrun ?_)
      have HV3 := Lib.hid (fun (V : World) (hV : Below w3.heap.size w3 V) => show Calls Tryz.prog 43 #[.pointer (some ⟨g, 0, none⟩)] V (fun e w' => e = .returned (.tuple #[.int .u64 x.val, .bool x.has]) ∧ Still V w') from by
        obtain ⟨be, A1, ek, h1, _⟩ := (T3.out.below (fun _ q => q) (hV.mono (HZ.out w3 HK3.out).1)).nod
        exact val_any h1)
      clear hrun
      cases hh : x.has with
      | true =>
        have e1 : some (l3, x.val) = o := by rw [← HS.out.is, first_has hh, HL3.out.1]
        subst e1
        rw [hh] at HV3
        have HO := Lib.hid (nown_of (some ⟨g, 0, none⟩) A3 m3 c3 l3 x.val true w3 HY3.out (by have := HWL.out; omega) (some (l3, x.val)) rfl HV3.out)
        clear hh HV3
        (with_reducible refine HO.out.mono ?_)
        rintro e w4 ⟨A4, c4, rfl, y4, nc4, pb4, k4⟩
        dsimp only [oK, oV, Option.isSome]
        have K4 := HK3.out.then_ k4 (fun _ _ q => q.elim)
        have J4 := HJ.out w4 K4
        have c1 := fun ob : Obj => (J4.alloc ob).cell 0
        have c2 := fun ob : Obj => (J4.alloc ob).cell 1
        have z1 := fun ob : Obj => (J4.alloc ob).fz 0
        have z2 := fun ob : Obj => (J4.alloc ob).fz 1
        have HJ4 := Lib.hid J4
        have HK4 := Lib.hid K4
        have HY4 := Lib.hid (show Byt w4 w4.heap.size A4 l3.length l3 ∧ l3.length ≤ c4 ∧ ∀ i, Pb A4 l3 i → w.heap.size < i from ⟨y4, nc4, fun i hi => Nat.lt_of_lt_of_le (HZ.out w3 HK3.out).2 (pb4 i hi)⟩)
        clear J4 K4 y4 nc4 pb4 k4 HO
        go_wp2_with fail
        obtain ⟨t1, t2⟩ := two_set (HJ4.out.alloc (.cells #[.slice A4 l3.length c4, .int .u64 x.val] 31)) (.slice A4 l3.length c4) (.int .u64 x.val)
        have ka : Kept (fun _ => False) w4 (w4.alloc (.cells #[.slice A4 l3.length c4, .int .u64 x.val] 31)) := Kept.of_below ((Below.refl _ _).alloc (Nat.le_refl _) _)
        have kz := (ka.mono (D' := fun i => i = w.heap.size) (fun _ q => q.elim)).then_ t2 (fun _ _ q => q)
        exact close2e rfl rfl rfl rfl (pair_load t1) ⟨A4, c4, rfl, (HY4.out.1.keepPb fun q hq => kz.cell (HY4.out.1.ltPb hq) (fun e => Nat.lt_irrefl _ (e ▸ HY4.out.2.2 _ hq))).more kz.size, HY4.out.2.1, fun i hi => Nat.le_of_lt (HY4.out.2.2 i hi), (HK.out w4 HK4.out).then_ kz (fun i hi e => by omega)⟩
      | false =>
        rw [hh] at HV3
        have HO := Lib.hid (nown_of (some ⟨g, 0, none⟩) A3 m3 c3 l3 x.val false w3 HY3.out (by have := HWL.out; omega) none rfl HV3.out)
        have HH := Lib.hid hh
        clear hh HV3
        (with_reducible refine HO.out.mono ?_)
        rintro e w4 ⟨A4, c4, rfl, _, _, _, k4⟩
        dsimp only [oK, oV, Option.isSome, List.length_nil]
        have zr := (HZ.out w3 HK3.out).1
        have K4 := HK3.out.then_ k4 (fun _ _ q => q.elim)
        have T4 := T3.out.below (fun _ q => q) (k4.below zr (fun _ q => q.elim))
        have W4 := W3.out.kept k4 zr (fun _ q => q.elim)
        have HK4 := Lib.hid K4
        obtain ⟨w5, hw5⟩ : ∃ V, w4.alloc (.cells #[.slice A4 0 c4, .int .u64 0] 31) = V := ⟨_, rfl⟩
        have k5 : Kept (fun _ => False) w4 w5 := by rw [← hw5]; exact Kept.of_below ((Below.refl _ _).alloc (Nat.le_refl _) _)
        have z4 := (HZ.out w4 K4).1
        have K5 := K4.then_ k5 (fun _ _ q => q.elim)
        have T5 := T4.below (fun _ q => q) (k5.below z4 (fun _ q => q.elim))
        have W5 := Lib.hid (W4.kept k5 z4 (fun _ q => q.elim))
        have HK5 := Lib.hid K5
        have HT5 := Lib.hid T5
        obtain ⟨be, A1, ek, hN5, hI5⟩ := T5.nod
        have HNX := nnext_any hN5 0 (by omega)
        rw [show (x.nd ek).es = ek from rfl, next_first] at HNX
        have hat := hI5.fst_at
        have hl3 := HL3.out.1
        have HW5 := Lib.hid hw5
        clear k4 zr K4 T4 W4 hw5 k5 z4 K5 T5 hN5 hI5
        rcases hk : k.fst with _ | ⟨b, y, j⟩
        · rw [hk] at hat
          rw [show ek[0]? = none from hat] at HNX
          have HST := Lib.hid (nstep_none A3 m3 c3 w5 38 (.pointer (some ⟨g, 0, none⟩)) 0 (fun xs V => Tryz.call38 xs V) HNX)
          have HE := Lib.hid (show none = o from by rw [← HS.out.is, first_none HH.out hk])
          clear hat hk HNX
          go_wp2_with fail
          rw [HW5.out]
          (with_reducible refine HST.out.mono ?_)
          rintro e w6 ⟨rfl, s6⟩
          have FIN := Lib.hid (show EndS n₀ N W List.head? o none none none 0 0 [] w6 from ⟨HE.out, trivial, fun p hp => (by cases hp), rfl, (Wy.nil w6 n₀).mono (fun _ q => q.elim) W5.out.lo, HK5.out.then_ (Kept.still (D := fun _ => False) s6) (fun _ _ q => q.elim)⟩)
          clear s6 HST
          go_wp2_with fail
          exact ⟨⟨none, none, none, 0, 0, [], rfl, rfl, FIN⟩, by have := HWL.out; have := HL3.out.2; simp [endM, slLen]; omega⟩
        · rw [hk] at hat
          obtain ⟨g2, e2, t2⟩ := hat
          rw [e2] at HNX
          have HST := Lib.hid (nstep_some n₀ (fun i => N i ∨ W.heap.size ≤ i) A3 m3 c3 (m3 + 1) l3 (l3 ++ [b]) w5 (HZ.out w5 HK5.out).1 W5.out (by have := HWL.out; omega) rfl 38 (.pointer (some ⟨g, 0, none⟩)) 0 b rfl ⟨g2, 0, none⟩ (fun xs V => Tryz.call38 xs V) HNX)
          have h1 := first_on HH.out HS.out.full hk HS.out.len
          rw [hl3] at h1
          have HF := Lib.hid h1
          have HT2 := Lib.hid t2
          clear t2 e2 hk HNX h1
          go_wp2_with fail
          rw [HW5.out]
          (with_reducible refine HST.out.mono ?_)
          rintro e w6 ⟨A6, c6, rfl, wy6, k6⟩
          have K6 := HK5.out.then_ k6 (fun i hi q => q.elim id (fun q => by omega))
          have FIN := Lib.hid (show EndS n₀ N W List.head? o (some (y, j)) (some ⟨g2, 0, none⟩) A6 (m3 + 1) c6 (l3 ++ [b]) w6 from ⟨HF.out.1.trans HS.out.is, HF.out.2.1, HF.out.2.2, ⟨g2, rfl, HT2.out.below (fun _ q => q) (k6.below (HZ.out w5 HK5.out).1 W5.out.lo)⟩, wy6.mono (HLO.out w5 HK5.out) W5.out.lo, K6⟩)
          clear k6 wy6 K6 HST
          go_wp2_with fail
          exact ⟨⟨some (y, j), some ⟨g2, 0, none⟩, A6, m3 + 1, c6, l3 ++ [b], rfl, rfl, FIN⟩, by have := HWL.out; have := HL3.out.2; simp [endM, slLen]; omega⟩
set_option maxRecDepth 100000 in
/-- What is handed back as it was told, out of the result's own block. -/
theorem nend_own {N : Nat → Prop} {w w4 w5 : World} {o : Option KV} {A5 : Option Addr} {c5 : Nat} (hk4 : Kept N w w4) (hs4 : w.heap.size < w4.heap.size) (hj : Blk w4 w.heap.size #[.slice none 0 0, .int .u64 0])
    (y5 : Byt w5 w5.heap.size A5 (oK o).length (oK o)) (nc5 : (oK o).length ≤ c5) (pb5 : ∀ i, Pb A5 (oK o) i → w4.heap.size ≤ i) (k5 : Kept (fun _ => False) w4 w5) (v : Int) (hv : oV o = v) (n : Nat) (hn : (oK o).length = n) (b : Bool) (hb : o.isSome = b) :
    (loadVar 31 ⟨w.heap.size, 0, none⟩).run Tryz.prog ((w5.setCell ⟨w.heap.size, 0, none⟩ (.slice A5 n c5)).setCell ⟨w.heap.size, 1, none⟩ (.int .u64 v)) = .ok (.agg #[.slice A5 n c5, .int .u64 v]) ((w5.setCell ⟨w.heap.size, 0, none⟩ (.slice A5 n c5)).setCell ⟨w.heap.size, 1, none⟩ (.int .u64 v)) ∧
    NrPost N w o (.returned (.tuple #[.agg #[.slice A5 n c5, .int .u64 v], .bool b])) ((w5.setCell ⟨w.heap.size, 0, none⟩ (.slice A5 n c5)).setCell ⟨w.heap.size, 1, none⟩ (.int .u64 v)) := by
  subst hv hn hb
  have hj5 := k5.blk hj (fun q => q)
  obtain ⟨t1, t2⟩ := two_set hj5 (.slice A5 (oK o).length c5) (.int .u64 (oV o))
  refine ⟨pair_load t1, A5, c5, rfl, (y5.keepPb fun q hq => t2.cell (y5.ltPb hq) (fun e => by have := pb5 _ hq; omega)).more t2.size, nc5, fun i hi => by have := pb5 i hi; omega, ?_⟩
  exact (hk4.then_ k5 (fun _ _ q => q.elim)).then_ t2 (fun i hi e => by omega)
set_option maxRecDepth 100000 in
set_option maxHeartbeats 4000000 in
theorem nlast_any (n₀ : Nat) (N : Nat → Prop) (t : Option (Nn × Fo)) (p A : Option Addr) (n c : Nat) (l : List UInt8) (w : World) (hn₀ : n₀ ≤ w.heap.size) (ht : OTre w (· < n₀) t p) (hf : ofull t) (hM : ∀ q ∈ olb t l, q.1.length ≤ 60000) (hw : Wy w n₀ N A n c l) (hn : n ≤ 60000) (hN : ∀ i, N i → i < w.heap.size) :
    Calls Tryz.prog 29 #[.slice A n c, .pointer p] w (NrPost N w (olb t l).getLast?) := by
  obtain ⟨o, ho⟩ : ∃ o, (olb t l).getLast? = o := ⟨_, rfl⟩
  rw [ho]
  obtain ⟨W, hW⟩ : ∃ W, w.alloc (.cells #[.slice none 0 0, .int .u64 0] 31) = W := ⟨_, rfl⟩
  have hb : Below w.heap.size w W := by rw [← hW]; exact (Below.refl _ _).alloc (Nat.le_refl _) _
  have hj : Blk W w.heap.size #[.slice none 0 0, .int .u64 0] := by rw [← hW]; exact Blk.new w _ _
  have hs : W.heap.size = w.heap.size + 1 := by rw [← hW]; simp
  have kW : Kept (fun _ => False) w W := Kept.of_below hb
  have hnW : n₀ ≤ W.heap.size := by omega
  have S0 := Lib.hid (show EndS n₀ N W List.getLast? o t p A n c l W ∧ n ≤ 60000 from ⟨⟨ho, hf, hM, otre_on ht (hb.mono hn₀), (hw.kept kW hn₀ (fun _ q => q.elim)).mono (fun i q => .inl q) (fun i q => q.elim (hw.lo i) (fun q => by omega)), Kept.refl _ _⟩, hn⟩)
  have HW := Lib.hid hW
  have HJ := Lib.hid (fun (V : World) (hV : Kept N W V) => hV.blk hj (fun q => by have := hN _ q; omega))
  have HZ := Lib.hid (fun (V : World) (hV : Kept N W V) => show n₀ ≤ V.heap.size ∧ w.heap.size < V.heap.size from by have := hV.size; omega)
  have HK := Lib.hid (fun (V : World) (hV : Kept N W V) => show Kept N w V from (kW.mono (fun _ q => q.elim)).trans hV)
  have HLO := Lib.hid (fun (V : World) (h : Kept N W V) => show ∀ i, ((N i ∨ W.heap.size ≤ i) ∨ V.heap.size ≤ i) → (N i ∨ W.heap.size ≤ i) from fun i q => q.elim id (fun q => .inr (Nat.le_trans h.size q)))
  clear hn₀ ht hf hM hw hN ho hb hj hs kW hW hnW hn
  go_enter Tryz.func29, Tryz.ntmps29
  go_wp2_with fail
  rw [HW.out]
  go_loopw [0, 1] (fun v0 v1 wr => ∃ (t' : Option (Nn × Fo)) (q A' : Option Addr) (m c' : Nat) (l' : List UInt8), v0 = .slice A' m c' ∧ v1 = .pointer q ∧ Hid (EndS n₀ N W List.getLast? o t' q A' m c' l' wr ∧ m ≤ 60000)) (fun v0 v1 _ => endM v0 v1)
  case atStart => exact ⟨t, p, A, n, c, l, rfl, rfl, S0⟩
  case round =>
    obtain ⟨t', q, A', m, c', l', rfl, rfl, HS0⟩ := hrel
    have HS := Lib.hid HS0.out.1
    have hm6 : (m : Int) ≤ 65535 := by have := HS0.out.2; omega
    clear S0
    cases t' with
    | none =>
      obtain rfl : q = none := HS.out.tre
      obtain rfl : none = o := HS.out.is
      have HPT := Lib.hid (npart_nil wr)
      have zr := (HZ.out wr HS.out.kept).1
      obtain ⟨A3, c3, w3, hrun, wy3, k3⟩ := HS.out.way.append zr (c1 := 0) (Byt.none_ (w := wr) (B := 0) (A := none)) (by have := HS0.out.2; omega) rfl
      rw [Nat.add_zero, List.append_nil] at wy3
      rw [Nat.add_zero] at hrun
      have K3 := HS.out.kept.then_ k3 (fun i hi q => q.elim id (fun q => by omega))
      have HY3 := Lib.hid (wy3.byt (HZ.out w3 K3).1)
      have HK3 := Lib.hid K3
      have HST := Lib.hid (nstep_none A3 m c3 w3 40 (.pointer none) 255 (fun xs V => Tryz.call40 xs V) ((nprev_nil 255 w3).mono fun e w' h => ⟨h.1, h.2 ▸ Still.refl _⟩))
      clear zr wy3 k3 K3
      go_wp2_with fail
      (with_reducible refine HPT.out.mono ?_)
      rintro e w2 ⟨rfl, rfl⟩
      go_wp2_with (at_builtin; refine Lib.wpList_append_run _ rfl _ _ _ _ rfl _ _ rfl rfl _ _ hrun ?_)
      (with_reducible refine HST.out.mono ?_)
      rintro e w4 ⟨rfl, s4⟩
      have K4 := HK3.out.then_ (Kept.still (D := fun _ => False) s4) (fun _ _ q => q.elim)
      have HO := Lib.hid (nown_of none A3 m c3 l' 0 false w4 ((HY3.out.below (s4.below _)).more (s4.below 0).size) (by have := HS0.out.2; omega) none rfl (fun V _ => (val_nil V).mono fun e w' h => ⟨h.1, h.2 ▸ Still.refl _⟩))
      have HK4 := Lib.hid K4
      clear s4 K4 HST hrun
      go_wp2_with fail
      (with_reducible refine HO.out.mono ?_)
      rintro e w5 ⟨A5, c5, rfl, y5, nc5, pb5, k5⟩
      have J5 := k5.blk (HJ.out w4 HK4.out) (fun q => q)
      have d1 := J5.cell 0
      have d2 := J5.cell 1
      have z1 := J5.fz 0
      have z2 := J5.fz 1
      have HE := Lib.hid (nend_own (HK.out w4 HK4.out) (HZ.out w4 HK4.out).2 (HJ.out w4 HK4.out) y5 nc5 pb5 k5 0 rfl 0 rfl false rfl)
      clear J5 y5 nc5 pb5 k5 HO
      dsimp only [oK, oV, Option.isSome, List.length_nil]
      go_wp2_with fail
      exact close2e rfl rfl rfl rfl HE.out.1 HE.out.2
    | some xk =>
      obtain ⟨x, k⟩ := xk
      obtain ⟨g, rfl, T⟩ := HS.out.tre
      have hml : l'.length = m := HS.out.way.len
      have hwl : l'.length + x.part.length ≤ 60000 := tlist_way HS.out.full.1 HS.out.len
      have HT := Lib.hid T
      have HWL := Lib.hid (show m + x.part.length ≤ 60000 by omega)
      obtain ⟨be, A1, ek, hN1, hI1⟩ := T.nod
      have HPT := Lib.hid (npart_any hN1)
      clear T hml hwl hN1 hI1
      go_wp2_with fail
      (with_reducible refine HPT.out.mono ?_)
      rintro e w2 ⟨A2, c2, rfl, y2, _, b2⟩
      have zr := (HZ.out wr HS.out.kept).1
      have T2 := HT.out.below (fun _ q => q) (b2.mono zr)
      have K2 : Kept N W w2 := HS.out.kept.then_ (Kept.of_below (D := fun _ => False) b2) (fun _ _ q => q.elim)
      obtain ⟨A3, c3, w3, hrun, wy3, k3⟩ := (HS.out.way.kept (Kept.of_below (D := fun _ => False) b2) zr (fun _ q => q.elim)).append (HZ.out w2 K2).1 (c1 := c2) y2 (by have := HWL.out; omega) rfl
      have K3 : Kept N W w3 := K2.then_ k3 (fun i hi q => q.elim id (fun q => by omega))
      have W3 := Lib.hid (wy3.mono (HLO.out w2 K2) (HS.out.way.lo))
      have T3 := Lib.hid (T2.below (fun _ q => q) (k3.below (HZ.out w2 K2).1 HS.out.way.lo))
      have HK3 := Lib.hid K3
      obtain ⟨l3, hl3⟩ : ∃ l3, l' ++ x.part = l3 := ⟨_, rfl⟩
      obtain ⟨m3, hm3⟩ : ∃ m3, m + x.part.length = m3 := ⟨_, rfl⟩
      rw [hl3, hm3] at W3
      rw [hm3] at hrun HWL
      have HL3 := Lib.hid (And.intro hl3 hm3)
      have HY3 := Lib.hid (W3.out.byt (HZ.out w3 HK3.out).1)
      obtain ⟨be, A1, ek, hN3, hI3⟩ := T3.out.nod
      have HNX := nprev_any hN3 255 (by omega)
      rw [show (x.nd ek).es = ek from rfl] at HNX
      have hat := hI3.last_at hN3.up
      clear HPT y2 b2 zr T2 K2 wy3 k3 K3 hm3 hN3 hI3
      rcases hk : k.lst with _ | ⟨b, y, j⟩
      · rw [hk] at hat
        rw [show prevE ek 255 = none from hat] at HNX
        have HST := Lib.hid (nstep_none A3 m3 c3 w3 40 (.pointer (some ⟨g, 0, none⟩)) 255 (fun xs V => Tryz.call40 xs V) HNX)
        have HE := Lib.hid (show (if x.has then some (l3, x.val) else none) = o from by rw [← HS.out.is, last_none hk, hl3])
        clear hat hk HNX hl3
        go_wp2_with (at_builtin; refine Lib.wpList_append_run _ rfl _ _ _ _ rfl _ _ rfl rfl _ _ hrun ?_)
        (with_reducible refine HST.out.mono ?_)
        rintro e w4 ⟨rfl, s4⟩
        have K4 := HK3.out.then_ (Kept.still (D := fun _ => False) s4) (fun _ _ q => q.elim)
        have HO := Lib.hid (nown_of (some ⟨g, 0, none⟩) A3 m3 c3 l3 x.val x.has w4 ((HY3.out.below (s4.below _)).more (s4.below 0).size) (by have := HWL.out; omega) o HE.out (fun V hV => by
          obtain ⟨be, A1, ek, h1, _⟩ := ((T3.out.below (fun _ q => q) (s4.below _)).below (fun _ q => q) (hV.mono (HZ.out w4 K4).1)).nod
          exact val_any h1))
        have HK4 := Lib.hid K4
        clear s4 K4 HST hrun
        go_wp2_with fail
        (with_reducible refine HO.out.mono ?_)
        rintro e w5 ⟨A5, c5, rfl, y5, nc5, pb5, k5⟩
        have J5 := k5.blk (HJ.out w4 HK4.out) (fun q => q)
        have d1 := J5.cell 0
        have d2 := J5.cell 1
        have z1 := J5.fz 0
        have z2 := J5.fz 1
        obtain ⟨v5, hv5⟩ : ∃ v, oV o = v := ⟨_, rfl⟩
        obtain ⟨n5, hn5⟩ : ∃ v, (oK o).length = v := ⟨_, rfl⟩
        obtain ⟨b5, hb5⟩ : ∃ v, o.isSome = v := ⟨_, rfl⟩
        have HE5 := Lib.hid (nend_own (HK.out w4 HK4.out) (HZ.out w4 HK4.out).2 (HJ.out w4 HK4.out) y5 nc5 pb5 k5 v5 hv5 n5 hn5 b5 hb5)
        rw [hv5, hn5, hb5]
        clear J5 y5 nc5 pb5 k5 HO hv5 hn5 hb5
        go_wp2_with fail
        exact close2e rfl rfl rfl rfl HE5.out.1 HE5.out.2
      · rw [hk] at hat
        obtain ⟨g2, e2, t2⟩ := hat
        rw [e2] at HNX
        have HST := Lib.hid (nstep_some n₀ (fun i => N i ∨ W.heap.size ≤ i) A3 m3 c3 (m3 + 1) l3 (l3 ++ [b]) w3 (HZ.out w3 HK3.out).1 W3.out (by have := HWL.out; omega) rfl 40 (.pointer (some ⟨g, 0, none⟩)) 255 b rfl ⟨g2, 0, none⟩ (fun xs V => Tryz.call40 xs V) HNX)
        have h1 := last_on HS.out.full hk HS.out.len
        rw [hl3] at h1
        have HF := Lib.hid h1
        have HT2 := Lib.hid t2
        have HM := Lib.hid (show m3 + 1 ≤ 60000 from by
          have := tlist_way h1.2.1.1 h1.2.2
          have h2 := W3.out.len
          simp only [List.length_append, List.length_singleton] at this
          omega)
        clear t2 e2 hk HNX h1 hl3
        go_wp2_with (at_builtin; refine Lib.wpList_append_run _ rfl _ _ _ _ rfl _ _ rfl rfl _ _ hrun ?_)
        (with_reducible refine HST.out.mono ?_)
        rintro e w6 ⟨A6, c6, rfl, wy6, k6⟩
        have K6 := HK3.out.then_ k6 (fun i hi q => q.elim id (fun q => by omega))
        have FIN := Lib.hid (show EndS n₀ N W List.getLast? o (some (y, j)) (some ⟨g2, 0, none⟩) A6 (m3 + 1) c6 (l3 ++ [b]) w6 ∧ m3 + 1 ≤ 60000 from ⟨⟨HF.out.1.trans HS.out.is, HF.out.2.1, HF.out.2.2, ⟨g2, rfl, HT2.out.below (fun _ q => q) (k6.below (HZ.out w3 HK3.out).1 W3.out.lo)⟩, wy6.mono (HLO.out w3 HK3.out) W3.out.lo, K6⟩, HM.out⟩)
        clear k6 wy6 K6 HST hrun
        go_wp2_with fail
        exact ⟨⟨some (y, j), some ⟨g2, 0, none⟩, A6, m3 + 1, c6, l3 ++ [b], rfl, rfl, FIN⟩, by have := HWL.out; have := HL3.out.2; simp [endM, slLen]; omega⟩
end Go.Proofs.YtidiinededalmaaGreat
