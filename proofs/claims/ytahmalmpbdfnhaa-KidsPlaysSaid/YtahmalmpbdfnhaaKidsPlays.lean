/-
  Proved here: kids answer every call, in every order, as the document's do, and are at each step of the least kind that has room for them; nothing that came in is turned. No condition.
-/
import Derived.Test.YtahmalmpbdfnhaaRow
import Derived.Test.YtahmalmpbdfnhaaKdDoc
import Derived.Test.YtahmalmpbdfnhaaKdAs
import Derived.Deep.CutBlock
import Derived.Deep.DeepCutAuto
namespace Go.Proofs.Ytahmalmpbdfnhaa.kidsPlays
open Go.ChangeShapes Go.WideShapes Go.ChangeAt Go.RowKit

/-- A great load whose guard is met. -/
theorem wpList_load_want {P : Program} {ops : Array Oper} {rest : List Oper} {op : Oper} {a : Act} {w : World} {Q : Exit → Act → World → Prop} (hw : Region.wanted op (yielded ops a.tmps) = true) (ty : TypeId) (x : Operand) (ho : op.op = .load ty x)
    (b o : Nat) (hx : a.eval x = .pointer (some ⟨b, o, none⟩)) (cs : List Value) (d : TypeDesc) (hc : w.rangeAt b o cs)
    (hu : P.underlying ty = some d) (hd : d.isRow = true) (hi : (P.info? ty).map (·.size) = some cs.length)
    (h : wpList P ops Q rest (a.put op.dst (.agg cs.toArray)) w) : wpList P ops Q (op :: rest) a w :=
  wpList_step fun _ hK => by rw [if_pos hw]; exact wp_load_mid ty x ho b o hx cs d hc hu hd hi (hK _ _ h)

theorem few256 {es : List Ent} (h : Up es) : es.length ≤ 256 := by rw [← pos_all]; exact pos256 h
theorem not_full {es : List Ent} (h : Up es) (b : UInt8) : ¬ (hasE es b.toNat = false ∧ es.length = 256) := by
  rintro ⟨h1, h2⟩
  have := few256 (set_up h b 0)
  rw [set_length, h1] at this
  simp at this
  omega
set_option maxRecDepth 100000 in
/-- The document's Set, of room for all bytes. -/
theorem rset_all {es : List Ent} (h : Up es) (b : UInt8) (x : Th) (w : World) : Calls Try.prog 13 #[.agg (docL 256 es).toArray, .int .u8 (b.toNat : Int), .int .i64 x] w fun e w' =>
    e = .returned (.tuple #[.agg (docL 256 (setE es b x)).toArray, .int .i64 0]) ∧ Below w.heap.size w w' := by
  have := rset_any (room := 256) h b x _ rfl w
  rwa [setR, if_neg (not_full h b), setN, if_neg (not_full h b)] at this

/-- The kids and the document's row hold es, each in blocks of its own. -/
structure Pst (w0 : World) (gd g : Nat) (N : Nat → Prop) (es : List Ent) (w : World) : Prop where
  own_ : KOwn w0.heap.size N w g es
  doc : Lst w gd (docL 256 es)
  below : Below w0.heap.size w0 w
section
variable {w0 w w' : World} {gd g : Nat} {N : Nat → Prop} {es es' : List Ent}
theorem Pst.on (h : Pst w0 gd g N es w) (hb : Below w.heap.size w w') : Pst w0 gd g N es w' :=
  ⟨h.own_.below hb, Blk.below h.doc hb (Blk.lt h.doc), h.below.trans (hb.mono h.below.size)⟩
theorem Pst.up (h : Pst w0 gd g N es w) : Up es := h.own_.up
end
set_option maxRecDepth 100000 in
theorem len_ok (es : List Ent) : (Try.prog.info? 28).map (·.size) = some (docL 256 es).length := by rw [docL_length]; exact doc_size
set_option maxRecDepth 100000 in
theorem size_ok (es : List Ent) : (Try.prog.info? 28).map (·.size) = some (docL 256 es).toArray.size := by rw [docA_size]; exact doc_size
/-- The document's row is laid over. -/
theorem lay_ok {w0 w : World} {gd g : Nat} {N : Nat → Prop} {es es' : List Ent} (hs : KOwn w0.heap.size N w g es') (hd : Lst w gd (docL 256 es)) (hb : Below w0.heap.size w0 w) (hg : g ≠ gd) (hN : N gd) (hB : w0.heap.size ≤ gd) :
    Pst w0 gd g N es' (w.setCells gd 0 (docL 256 es').toArray.toList) := by
  have k := Kept.setCells (· = gd) w gd 0 (docL 256 es').toArray.toList rfl
  exact ⟨hs.kept k hg (fun i q => .inr (by rw [q]; exact hN)), doc_over hd docL_length, hb.trans (k.below hb.size (fun q hq => by omega))⟩

set_option linter.unusedSimpArgs false in
set_option maxRecDepth 100000 in
set_option maxHeartbeats 8000000 in
theorem walk (A : Option Addr) (n c : Nat) (ss : List Stp) (y : Int) (w : World) (hs : Sts w w.heap.size A n ss) (nc : n ≤ c) (wy : (Lit.int .i64 y).wf = true) :
    Calls Try.prog 3 #[.slice A n c, .int .i64 y] w fun e w' => e = .returned (.bool true) ∧ Below w.heap.size w w' := by
  have hmx : n ≤ 9223372036854775807 := by have := hs.2.1; unfold maxLen at this; omega
  have hy : -9223372036854775808 ≤ y ∧ y ≤ 9223372036854775807 := by simpa [Lit.wf, IntKind.min, IntKind.max, IntKind.signed, IntKind.bits] using wy
  have HY := Lib.hid hy
  clear wy hy
  have C := Lib.hid (KOwn.new w)
  have D := Lib.hid (fun V => rknew_any V)
  have HLn := Lib.hid (len_ok [])
  have HSz := Lib.hid (size_ok [])
  have HOn := Lib.hid (all_oneCell_toArray (docL_one (room := 256) (es := [])))
  have HT := Lib.hid (fun (V : World) => Lst.there (show Lst (V.alloc (.cells zeroL.toArray 28)) V.heap.size zeroL from Blk.new V _ _) (o := 0) (n := (docL 256 []).toArray.size) (by rw [docA_size, zeroL_length]; exact Nat.le_refl _))
  have HS := Lib.hid hs
  have CA := Lib.hid (fun (U : World) (B : Nat) (N : Nat → Prop) (q : KOwn B N U w.heap.size []) => (show Calls Try.prog 9 #[.pointer (some ⟨w.heap.size, 0, none⟩), .agg (docL 256 []).toArray, .int .i64 y] U fun e w' => e = .returned (.bool true) ∧ Below U.heap.size U w' from kas_any q y HY.out))
  clear hs
  go_enter Try.func3, Try.ntmps3
  go_wp2_with fail
  (with_reducible refine C.out.mono ?_)
  rintro e W1 ⟨rfl, h1, b1⟩
  have S1 := Lib.hid h1
  have B1 := Lib.hid b1
  clear h1 b1 C
  go_wp2_with fail
  (with_reducible refine (D.out _).mono ?_)
  rintro e W2 ⟨rfl, h2⟩
  have S2 := Lib.hid (S1.out.below h2)
  have Z2 := Lib.hid (B1.out.trans (h2.mono B1.out.size))
  obtain ⟨gd, hgd⟩ : ∃ gd, W2.heap.size = gd := ⟨_, rfl⟩
  have GD := Lib.hid (show w.heap.size < gd by have := S2.out.lt; omega)
  obtain ⟨V, hV⟩ : ∃ V, (W2.alloc (.cells zeroL.toArray 28)).setCells W2.heap.size 0 (docL 256 []).toArray.toList = V := ⟨_, rfl⟩
  have BV := Lib.hid (show Pst w gd w.heap.size (· = gd) [] V from by
    have hz : Lst (W2.alloc (.cells zeroL.toArray 28)) W2.heap.size zeroL := Blk.new W2 _ _
    have k : Kept (· = W2.heap.size) W2 V := by rw [← hV]; exact (Kept.of_below ((Below.refl _ _).alloc (Nat.le_refl _) _)).trans (Kept.setCells (· = W2.heap.size) _ _ _ _ rfl)
    have o1 := (S2.out.more (k := gd) (by omega)).kept k (by have := GD.out; omega) (fun i q => .inr (.inr (by omega)))
    refine ⟨o1.fewer (fun i q => .inr q), ?_, Z2.out.trans (k.below Z2.out.size (fun q hq => by have := GD.out; omega))⟩
    rw [← hgd, ← hV]
    exact doc_over hz zeroL_length)
  have HRV := Lib.hid (Lst.all BV.out.doc)
  have HV := Lib.hid hV
  have HG := Lib.hid hgd
  clear h2 hV S1 B1 D hgd
  generalize docL 256 [] = L at HSz HOn HT HV HLn HRV CA ⊢
  go_upto_region 2 with (first
    | (refine wpList_alloc_z rfl 28 rfl zeroL.toArray doc_zero ?_)
    | (refine wpList_store_mid rfl 28 (.tmp 6) (.tmp 16) rfl W2.heap.size 0 L.toArray rfl rfl (HT.out W2) HSz.out HOn.out ?_; rw [HV.out]))
  try rw [HG.out]
  go_wp2_with (refine wpList_load_want (by rfl) 28 (.tmp 6) rfl gd 0 rfl L _ HRV.out Try.underlying28 rfl HLn.out ?_)
  (with_reducible refine (CA.out _ _ _ BV.out.own_).mono ?_)
  rintro e w3 ⟨rfl, h3⟩
  have BW := Lib.hid (BV.out.on h3)
  clear HT HSz HOn HV HG S2 Z2 HRV HLn CA h3
  go_upto_region 4 with fail
  go_cut [30, 31, 32] (fun s30 s31 s32 wc => ∃ m : Nat, m ≤ n ∧ m ≤ 30 ∧ s30 = .slice A m c ∧ s31 = .int .i64 m ∧ s32 = .int .i64 0 ∧ wc = w3)
  case first =>
    by_cases h60 : n ≤ 30
    all_goals
      go_wp2_with fail
      go_meet
    · exact ⟨n, Nat.le_refl _, h60, rfl, rfl, rfl, rfl⟩
    · exact ⟨30, by omega, Nat.le_refl _, rfl, rfl, rfl, rfl⟩
  case rest =>
    obtain ⟨m, hmn, hm60, rfl, rfl, rfl, rfl⟩ := hcut
    go_wp2_with fail
    go_loopw [32] (fun i wr => ∃ (k : Nat) (es : List Ent), k ≤ m ∧ i = .int .i64 k ∧ Hid (Pst w gd w.heap.size (· = gd) es wr)) (fun i _ => m - (intOf i).toNat)
    case atStart => exact ⟨0, [], Nat.zero_le _, rfl, BW⟩
    case round =>
      obtain ⟨k, es, hk, rfl, BK⟩ := hrel
      by_cases h1 : k < m
      · obtain ⟨ad, s, rfl, hadb, hsk, hx, hd0, hd1, hd2, hd3⟩ := (HS.out.below BK.out.below).at_ (k := k) (by omega)
        have e1 : (⟨(ad.add (k * 4)).block, (ad.add (k * 4)).off + 1, none⟩ : Addr) = ad.add (k * 4 + 1) := by rw [← add_of_add]; rfl
        have e2 : (⟨(ad.add (k * 4)).block, (ad.add (k * 4)).off + 2, none⟩ : Addr) = ad.add (k * 4 + 2) := by rw [← add_of_add]; rfl
        have e3 : (⟨(ad.add (k * 4)).block, (ad.add (k * 4)).off + 3, none⟩ : Addr) = ad.add (k * 4 + 3) := by rw [← add_of_add]; rfl
        rw [← e1] at hd1
        rw [← e2] at hd2
        rw [← e3] at hd3
        clear hsk e1 e2 e3 hadb
        have HX := Lib.hid hx
        clear hx
        -- the step's own block
        obtain ⟨gs, hgs⟩ : ∃ gs, wr.heap.size = gs := ⟨_, rfl⟩
        obtain ⟨V1, hV1⟩ : ∃ V1, wr.alloc (.cells #[.bool s.d, .int .u8 (s.b.toNat : Int), .int .u8 (s.m.toNat : Int), .int .i64 s.x] 32) = V1 := ⟨_, rfl⟩
        have hA : Below wr.heap.size wr V1 := by rw [← hV1]; exact (Below.refl _ _).alloc (Nat.le_refl _) _
        have hst : Blk V1 gs #[.bool s.d, .int .u8 (s.b.toNat : Int), .int .u8 (s.m.toNat : Int), .int .i64 s.x] := by rw [← hV1, ← hgs]; exact Blk.new wr _ _
        have NG := Lib.hid (show gd < gs ∧ w.heap.size < gs by have := Blk.lt BK.out.doc; have := GD.out; omega)
        have S1 := Lib.hid (show Pst w gd w.heap.size (fun i => i = gd ∨ i = gs) es V1 from ⟨(BK.out.own_.more (by omega)).below hA, Blk.below BK.out.doc hA (Blk.lt BK.out.doc), BK.out.below.trans (hA.mono BK.out.below.size)⟩)
        have st2 : V1.cell? ⟨gs, 2, none⟩ = some (.int .u8 (s.m.toNat : Int)) := hst.cell 2
        have mlt := s.m.toNat_lt
        have HBL := Lib.hid hst
        have HV1 := Lib.hid hV1
        clear hst hV1 hA
        go_upto_region 7 with fail
        try rw [HV1.out]
        try rw [hgs]
        clear HV1 hgs
        obtain ⟨M, hM⟩ : ∃ M : Nat, ((s.m.toNat : Int) % 70) = (M : Int) := ⟨s.m.toNat % 70, by omega⟩
        have hM69 : M ≤ 69 := by omega
        go_wp2_with fail
        rw [hM]
        clear hM st2 hd0 hd1 hd2 hd3
        go_loopw [41] (fun i wr2 => ∃ (j : Nat) (es2 : List Ent), j ≤ M + 1 ∧ i = .int .i64 j ∧ Hid (Pst w gd w.heap.size (fun i => i = gd ∨ i = gs) es2 wr2) ∧ Hid (Blk wr2 gs #[.bool s.d, .int .u8 (s.b.toNat : Int), .int .u8 (s.m.toNat : Int), .int .i64 s.x])) (fun i _ => M + 1 - (intOf i).toNat)
        case atStart => exact ⟨0, es, Nat.zero_le _, rfl, S1, HBL⟩
        case round =>
          obtain ⟨j, es2, hj, rfl, S2, Q2⟩ := hrel
          by_cases h2 : j < M + 1
          · have st1 : wr.cell? ⟨gs, 1, none⟩ = some (.int .u8 (s.b.toNat : Int)) := Q2.out.cell 1
            have blt := s.b.toNat_lt
            obtain ⟨bb, hbb⟩ : ∃ bb : UInt8, ((s.b.toNat : Int) + (j : Int)) % 256 = (bb.toNat : Int) := ⟨UInt8.ofNat ((s.b.toNat + j) % 256), by rw [UInt8.toNat_ofNat']; omega⟩
            go_upto_region 12 with fail
            rw [hbb]
            clear hbb
            have blt2 : bb.toNat < 256 := bb.toNat_lt
            have hbi : (bb.toNat : Int) < 256 := by omega
            have ew64 : IntKind.i64.wrap (bb.toNat : Int) = (bb.toNat : Int) := by rw [IntKind.wrap_i64]; omega
            have NB := Lib.hid (fun i (q : i = gd ∨ i = gs) => show i < wr.heap.size by
              rcases q with q | q
              · rw [q]; exact Blk.lt S2.out.doc
              · rw [q]; exact Q2.out.lt)
            by_cases hsd : s.d = true
            · have HSD := Lib.hid hsd
              have st0 : wr.cell? ⟨gs, 0, none⟩ = some (.bool true) := by rw [← hsd]; exact Q2.out.cell 0
              clear hsd
              have CB := Lib.hid (S2.out.own_.drop_ S2.out.below.size NB.out bb _ rfl)
              have CR := Lib.hid (fun V => rdrop_any (room := 256) S2.out.up bb _ rfl V)
              have HLn := Lib.hid (len_ok es2)
              generalize dropN es2 bb = dn at CB CR
              go_wp2_with fail
              (with_reducible refine CB.out.mono ?_)
              rintro e w1 ⟨rfl, o1, k1⟩
              have O1 := Lib.hid o1
              have D1 := Lib.hid (show Lst w1 gd (docL 256 es2) from k1.blk S2.out.doc (by rintro (q | ⟨_, q⟩); (have := GD.out; omega); exact q (Or.inl rfl)))
              have Q1 := Lib.hid (k1.blk Q2.out (by rintro (q | ⟨_, q⟩); (have := NG.out; omega); exact q (Or.inr rfl)))
              have Z1 := Lib.hid (S2.out.below.trans (k1.below S2.out.below.size (fun i q => by rcases q with q | q <;> omega)))
              have HR1 := Lib.hid (Lst.all D1.out)
              clear o1 k1 st0 st1 CB
              generalize hLL : docL 256 es2 = L at HR1 HLn CR
              go_wp2_with (refine wpList_load_mid rfl 28 (.tmp 6) rfl gd 0 rfl L _ HR1.out Try.underlying28 rfl HLn.out ?_)
              subst hLL
              (with_reducible refine (CR.out _).mono ?_)
              rintro e w2 ⟨rfl, h2⟩
              have O2 := Lib.hid (O1.out.below h2)
              have D2 := Lib.hid (show Lst w2 gd (docL 256 es2) from Blk.below D1.out h2 (Blk.lt D1.out))
              have Q3 := Lib.hid (Blk.below Q1.out h2 (Blk.lt Q1.out))
              have Z2 := Lib.hid (Z1.out.trans (h2.mono Z1.out.size))
              clear h2 HLn CR HR1
              have B3 := Lib.hid (lay_ok O2.out D2.out Z2.out (by have := GD.out; omega) (Or.inl rfl) (by have := GD.out; omega))
              have Q4 := Lib.hid ((Kept.setCells (· = gd) w2 gd 0 (docL 256 (dropE es2 bb)).toArray.toList rfl).blk Q3.out (by have := NG.out; omega))
              have HT3 := Lib.hid (Lst.there D2.out (o := 0) (n := (docL 256 (dropE es2 bb)).toArray.size) (by rw [docA_size, docL_length]; exact Nat.le_refl _))
              have HSz := Lib.hid (size_ok (dropE es2 bb))
              have HOn := Lib.hid (all_oneCell_toArray (docL_one (room := 256) (es := dropE es2 bb)))
              obtain ⟨w3, hw3⟩ : ∃ w3, w2.setCells gd 0 (docL 256 (dropE es2 bb)).toArray.toList = w3 := ⟨_, rfl⟩
              rw [hw3] at B3 Q4
              have HW3 := Lib.hid hw3
              clear hw3
              generalize hes : dropE es2 bb = es' at B3 HSz HOn HT3 HW3
              clear O1 D1 Q1 Z1 O2 D2 Q3 Z2 hes
              have CG := Lib.hid (B3.out.own_.get_ bb _ rfl)
              obtain ⟨hh, hhh⟩ : ∃ hh, hasE es' bb.toNat = hh := ⟨_, rfl⟩
              obtain ⟨vv, hvv⟩ : ∃ vv, getE es' bb.toNat = vv := ⟨_, rfl⟩
              have HH := Lib.hid (And.intro hhh hvv)
              rw [hhh, hvv] at CG
              clear hhh hvv
              generalize hLL : docL 256 es' = L at HSz HOn HT3 HW3
              go_wp2_with (refine wpList_store_mid rfl 28 (.tmp 6) (.tmp 58) rfl gd 0 L.toArray rfl rfl HT3.out HSz.out HOn.out ?_; rw [HW3.out])
              (with_reducible refine CG.out.mono ?_)
              rintro e w5 ⟨rfl, s5⟩
              have B5 := Lib.hid (B3.out.on (s5.below _))
              have Q6 := Lib.hid (Blk.below Q4.out (s5.below _) (Blk.lt Q4.out))
              have hl256 : es'.length ≤ 256 := B5.out.own_.few
              have HSk := Lib.hid (fun (V : World) (q : Below w5.heap.size w5 V) => show V.rangeAt gd 0 L ∧ V.cell? ⟨gd, 1 + bb.toNat, none⟩ = some (.bool hh) ∧ V.cell? ⟨gd, 257 + bb.toNat, none⟩ = some (.int .i64 vv) from by
                have hd := (B5.out.on q).doc
                exact ⟨hLL ▸ Lst.all hd, by rw [Lst.at_ hd, docL_has blt2, HH.out.1], by rw [Lst.at_ hd, docL_val blt2, HH.out.2]⟩)
              have HLn := Lib.hid (show (Try.prog.info? 28).map (·.size) = some L.length from hLL ▸ len_ok es')
              have CK := Lib.hid (fun (V : World) (q : Below w5.heap.size w5 V) => (B5.out.on q).own_.kind_)
              have CRL := Lib.hid (fun V => (show Calls Try.prog 17 #[.agg L.toArray] V fun e w' => e = .returned (.int .i64 (es'.length : Int)) ∧ Below V.heap.size V w' from hLL ▸ rlen_any (room := 256) B5.out.up V))
              have CZ := Lib.hid (fun V => (show Calls Try.prog 16 #[.int .i64 (es'.length : Int)] V fun e w' => e = .returned (.int .i64 (kindN es'.length : Int)) ∧ w' = V from by rw [← kindZ_nat hl256]; exact rkindof_any V _))
              clear s5 CG B3 Q4 HSz HOn HT3 HW3 hLL HH hl256
              generalize kindN es'.length = kn at CK CZ
              generalize es'.length = ln at CRL CZ
              go_wp2_with fail
              refine wp_region_held_drew (S := (fun w' => w'.rangeAt gd 0 L ∧ w'.cell? ⟨gd, 1 + bb.toNat, none⟩ = some (.bool hh) ∧ w'.cell? ⟨gd, 257 + bb.toNat, none⟩ = some (.int .i64 vv))) (by kernel_rfl) (HSk.out _ (Below.refl _ _).drew) (fun hHeld => ?_)
              refine wpAnyH_take (i := 0) (oi := { dst := some 87, op := Op.move (Operand.tmp 11), type := 33, pos := "law.go:61", after := #[], guard := none }) (v := ?v1) rfl (by kernel_rfl) (by kernel_rfl) (by kernel_rfl) (fun _ _ _ h => h) (Or.inl ⟨by rfl, ?hy1⟩) hHeld ?rest1
              case hy1 => (intro w' hSw; (try dsimp only at hSw); go_simp; (try with_reducible rfl))
              try simp only [Act.put, List.setIfInBounds_toArray, List.set_cons_zero, List.set_cons_succ]
              refine wpAnyH_take (i := 1) (oi := { dst := some 88, op := Op.move (Operand.tmp 12), type := 3, pos := "law.go:61", after := #[], guard := none }) (v := ?v2) rfl (by kernel_rfl) (by kernel_rfl) (by kernel_rfl) (fun _ _ _ h => h) (Or.inl ⟨by rfl, ?hy2⟩) hHeld ?rest2
              case hy2 => (intro w' hSw; (try dsimp only at hSw); go_simp; (try with_reducible rfl))
              try simp only [Act.put, List.setIfInBounds_toArray, List.set_cons_zero, List.set_cons_succ]
              refine wpAnyH_take (i := 2) (oi := { dst := some 89, op := Op.binOp BinOp.neq 3 (Operand.tmp 87) (Operand.tmp 88) 3, type := 4, pos := "law.go:61", after := #[{ on := 0, ground := Ground.data }, { on := 1, ground := Ground.data }], guard := none }) (v := ?v3) rfl (by kernel_rfl) (by kernel_rfl) (by kernel_rfl) (fun _ _ _ h => h) (Or.inl ⟨by rfl, ?hy3⟩) hHeld ?rest3
              case hy3 => (intro w' hSw; (try dsimp only at hSw); go_simp; (try with_reducible rfl))
              try simp only [Act.put, List.setIfInBounds_toArray, List.set_cons_zero, List.set_cons_succ]
              refine wpAnyH_take (i := 3) (oi := { dst := some 90, op := Op.move (Operand.tmp 89), type := 4, pos := "law.go:61", after := #[{ on := 2, ground := Ground.data }], guard := none }) (v := ?v4) rfl (by kernel_rfl) (by kernel_rfl) (by kernel_rfl) (fun _ _ _ h => h) (Or.inl ⟨by rfl, ?hy4⟩) hHeld ?rest4
              case hy4 => (intro w' hSw; (try dsimp only at hSw); go_simp; (try with_reducible rfl))
              try simp only [Act.put, List.setIfInBounds_toArray, List.set_cons_zero, List.set_cons_succ]
              refine wpAnyH_take (i := 4) (oi := { dst := some 91, op := Op.move (Operand.tmp 14), type := 4, pos := "law.go:61", after := #[{ on := 3, ground := Ground.guard }], guard := some (3, false) }) (v := ?v5) rfl (by kernel_rfl) (by kernel_rfl) (by kernel_rfl) (fun _ _ _ h => h) (Or.inl ⟨by rfl, ?hy5⟩) hHeld ?rest5
              case hy5 => (intro w' hSw; (try dsimp only at hSw); go_simp; (try with_reducible rfl))
              try simp only [Act.put, List.setIfInBounds_toArray, List.set_cons_zero, List.set_cons_succ]
              refine wpAnyH_take (i := 5) (oi := { dst := some 92, op := Op.move (Operand.tmp 10), type := 5, pos := "law.go:61", after := #[{ on := 3, ground := Ground.guard }], guard := some (3, false) }) (v := ?v6) rfl (by kernel_rfl) (by kernel_rfl) (by kernel_rfl) (fun _ _ _ h => h) (Or.inl ⟨by rfl, ?hy6⟩) hHeld ?rest6
              case hy6 => (intro w' hSw; (try dsimp only at hSw); go_simp; (try with_reducible rfl))
              try simp only [Act.put, List.setIfInBounds_toArray, List.set_cons_zero, List.set_cons_succ]
              refine wpAnyH_take (i := 6) (oi := { dst := some 93, op := Op.convert 5 3 (Operand.tmp 92), type := 3, pos := "law.go:61", after := #[{ on := 5, ground := Ground.data }, { on := 3, ground := Ground.guard }], guard := some (3, false) }) (v := .int .i64 (bb.toNat : Int)) rfl (by kernel_rfl) (by kernel_rfl) (by kernel_rfl) (fun _ _ _ h => h) (Or.inl ⟨by rfl, ?hyV⟩) hHeld ?_
              case hyV => (intro w' hSw; (try dsimp only at hSw); go_simp; (try rw [ew64]))
              try simp only [Act.put, List.setIfInBounds_toArray, List.set_cons_zero, List.set_cons_succ]
              refine wpAnyH_take (i := 7) (oi := { dst := some 94, op := Op.fieldAddr 28 (Operand.tmp 6) 1, type := 0, pos := "law.go:61", after := #[{ on := 3, ground := Ground.guard }], guard := some (3, false) }) (v := ?v7) rfl (by kernel_rfl) (by kernel_rfl) (by kernel_rfl) (fun _ _ _ h => h) (Or.inl ⟨by rfl, ?hy7⟩) hHeld ?rest7
              case hy7 => (intro w' hSw; (try dsimp only at hSw); go_simp; (try with_reducible rfl))
              try simp only [Act.put, List.setIfInBounds_toArray, List.set_cons_zero, List.set_cons_succ]
              refine wpAnyH_take (i := 8) (oi := { dst := some 95, op := Op.indexAddr 25 (Operand.tmp 94) (Operand.tmp 93), type := 0, pos := "law.go:61", after := #[{ on := 7, ground := Ground.data }, { on := 6, ground := Ground.data }, { on := 3, ground := Ground.guard }], guard := some (3, false) }) (v := .pointer (some ⟨gd, 1 + bb.toNat, none⟩)) rfl (by kernel_rfl) (by kernel_rfl) (by kernel_rfl) (fun _ _ _ h => h) (Or.inl ⟨by rfl, ?hyV⟩) hHeld ?_
              case hyV => (intro w' hSw; (try dsimp only at hSw); go_simp; (try rw [if_pos ⟨by omega, hbi⟩]); (try simp only [Int.toNat_natCast]); (try rfl))
              try simp only [Act.put, List.setIfInBounds_toArray, List.set_cons_zero, List.set_cons_succ]
              refine wpAnyH_take (i := 9) (oi := { dst := some 96, op := Op.load 4 (Operand.tmp 95), type := 4, pos := "law.go:61", after := #[{ on := 8, ground := Ground.data }, { on := 3, ground := Ground.guard }], guard := some (3, false) }) (v := ?v8) rfl (by kernel_rfl) (by kernel_rfl) (by kernel_rfl) (fun _ _ _ h => h) (Or.inl ⟨by rfl, ?hy8⟩) hHeld ?rest8
              case hy8 => (intro w' hSw; (try dsimp only at hSw); go_simp; (try with_reducible rfl))
              try simp only [Act.put, List.setIfInBounds_toArray, List.set_cons_zero, List.set_cons_succ]
              refine wpAnyH_take (i := 10) (oi := { dst := some 97, op := Op.binOp BinOp.neq 4 (Operand.tmp 91) (Operand.tmp 96) 4, type := 4, pos := "law.go:61", after := #[{ on := 4, ground := Ground.data }, { on := 9, ground := Ground.data }, { on := 3, ground := Ground.guard }], guard := some (3, false) }) (v := ?v9) rfl (by kernel_rfl) (by kernel_rfl) (by kernel_rfl) (fun _ _ _ h => h) (Or.inl ⟨by rfl, ?hy9⟩) hHeld ?rest9
              case hy9 => (intro w' hSw; (try dsimp only at hSw); go_simp; (try with_reducible rfl))
              try simp only [Act.put, List.setIfInBounds_toArray, List.set_cons_zero, List.set_cons_succ]
              refine wpAnyH_take (i := 11) (oi := { dst := some 98, op := Op.pick (Operand.tmp 90) (Operand.const (Value.bool true)) (Operand.tmp 97), type := 4, pos := "law.go:61", after := #[{ on := 3, ground := Ground.data }, { on := 10, ground := Ground.data }], guard := none }) (v := ?v10) rfl (by kernel_rfl) (by kernel_rfl) (by kernel_rfl) (fun _ _ _ h => h) (Or.inl ⟨by rfl, ?hy10⟩) hHeld ?rest10
              case hy10 => (intro w' hSw; (try dsimp only at hSw); go_simp; (try with_reducible rfl))
              try simp only [Act.put, List.setIfInBounds_toArray, List.set_cons_zero, List.set_cons_succ]
              refine wpAnyH_take (i := 12) (oi := { dst := some 99, op := Op.move (Operand.tmp 98), type := 4, pos := "law.go:61", after := #[{ on := 11, ground := Ground.data }, { on := 3, ground := Ground.chain }], guard := none }) (v := ?v11) rfl (by kernel_rfl) (by kernel_rfl) (by kernel_rfl) (fun _ _ _ h => h) (Or.inl ⟨by rfl, ?hy11⟩) hHeld ?rest11
              case hy11 => (intro w' hSw; (try dsimp only at hSw); go_simp; (try with_reducible rfl))
              try simp only [Act.put, List.setIfInBounds_toArray, List.set_cons_zero, List.set_cons_succ]
              refine wpAnyH_take (i := 13) (oi := { dst := some 100, op := Op.move (Operand.tmp 13), type := 3, pos := "law.go:61", after := #[{ on := 12, ground := Ground.guard }], guard := some (12, false) }) (v := ?v12) rfl (by kernel_rfl) (by kernel_rfl) (by kernel_rfl) (fun _ _ _ h => h) (Or.inl ⟨by rfl, ?hy12⟩) hHeld ?rest12
              case hy12 => (intro w' hSw; (try dsimp only at hSw); go_simp; (try with_reducible rfl))
              try simp only [Act.put, List.setIfInBounds_toArray, List.set_cons_zero, List.set_cons_succ]
              refine wpAnyH_take (i := 14) (oi := { dst := some 101, op := Op.move (Operand.tmp 10), type := 5, pos := "law.go:61", after := #[{ on := 12, ground := Ground.guard }], guard := some (12, false) }) (v := ?v13) rfl (by kernel_rfl) (by kernel_rfl) (by kernel_rfl) (fun _ _ _ h => h) (Or.inl ⟨by rfl, ?hy13⟩) hHeld ?rest13
              case hy13 => (intro w' hSw; (try dsimp only at hSw); go_simp; (try with_reducible rfl))
              try simp only [Act.put, List.setIfInBounds_toArray, List.set_cons_zero, List.set_cons_succ]
              refine wpAnyH_take (i := 15) (oi := { dst := some 102, op := Op.convert 5 3 (Operand.tmp 101), type := 3, pos := "law.go:61", after := #[{ on := 14, ground := Ground.data }, { on := 12, ground := Ground.guard }], guard := some (12, false) }) (v := .int .i64 (bb.toNat : Int)) rfl (by kernel_rfl) (by kernel_rfl) (by kernel_rfl) (fun _ _ _ h => h) (Or.inl ⟨by rfl, ?hyV⟩) hHeld ?_
              case hyV => (intro w' hSw; (try dsimp only at hSw); go_simp; (try rw [ew64]))
              try simp only [Act.put, List.setIfInBounds_toArray, List.set_cons_zero, List.set_cons_succ]
              refine wpAnyH_take (i := 16) (oi := { dst := some 103, op := Op.fieldAddr 28 (Operand.tmp 6) 2, type := 0, pos := "law.go:61", after := #[{ on := 12, ground := Ground.guard }], guard := some (12, false) }) (v := ?v14) rfl (by kernel_rfl) (by kernel_rfl) (by kernel_rfl) (fun _ _ _ h => h) (Or.inl ⟨by rfl, ?hy14⟩) hHeld ?rest14
              case hy14 => (intro w' hSw; (try dsimp only at hSw); go_simp; (try with_reducible rfl))
              try simp only [Act.put, List.setIfInBounds_toArray, List.set_cons_zero, List.set_cons_succ]
              refine wpAnyH_take (i := 17) (oi := { dst := some 104, op := Op.indexAddr 26 (Operand.tmp 103) (Operand.tmp 102), type := 0, pos := "law.go:61", after := #[{ on := 16, ground := Ground.data }, { on := 15, ground := Ground.data }, { on := 12, ground := Ground.guard }], guard := some (12, false) }) (v := .pointer (some ⟨gd, 257 + bb.toNat, none⟩)) rfl (by kernel_rfl) (by kernel_rfl) (by kernel_rfl) (fun _ _ _ h => h) (Or.inl ⟨by rfl, ?hyV⟩) hHeld ?_
              case hyV => (intro w' hSw; (try dsimp only at hSw); go_simp; (try rw [if_pos ⟨by omega, hbi⟩]); (try simp only [Int.toNat_natCast]); (try rfl))
              try simp only [Act.put, List.setIfInBounds_toArray, List.set_cons_zero, List.set_cons_succ]
              refine wpAnyH_take (i := 18) (oi := { dst := some 105, op := Op.load 3 (Operand.tmp 104), type := 3, pos := "law.go:61", after := #[{ on := 17, ground := Ground.data }, { on := 12, ground := Ground.guard }], guard := some (12, false) }) (v := ?v15) rfl (by kernel_rfl) (by kernel_rfl) (by kernel_rfl) (fun _ _ _ h => h) (Or.inl ⟨by rfl, ?hy15⟩) hHeld ?rest15
              case hy15 => (intro w' hSw; (try dsimp only at hSw); go_simp; (try with_reducible rfl))
              try simp only [Act.put, List.setIfInBounds_toArray, List.set_cons_zero, List.set_cons_succ]
              refine wpAnyH_take (i := 19) (oi := { dst := some 106, op := Op.binOp BinOp.neq 3 (Operand.tmp 100) (Operand.tmp 105) 3, type := 4, pos := "law.go:61", after := #[{ on := 13, ground := Ground.data }, { on := 18, ground := Ground.data }, { on := 12, ground := Ground.guard }], guard := some (12, false) }) (v := ?v16) rfl (by kernel_rfl) (by kernel_rfl) (by kernel_rfl) (fun _ _ _ h => h) (Or.inl ⟨by rfl, ?hy16⟩) hHeld ?rest16
              case hy16 => (intro w' hSw; (try dsimp only at hSw); go_simp; (try with_reducible rfl))
              try simp only [Act.put, List.setIfInBounds_toArray, List.set_cons_zero, List.set_cons_succ]
              refine wpAnyH_take (i := 20) (oi := { dst := some 107, op := Op.pick (Operand.tmp 99) (Operand.const (Value.bool true)) (Operand.tmp 106), type := 4, pos := "law.go:61", after := #[{ on := 12, ground := Ground.data }, { on := 19, ground := Ground.data }], guard := none }) (v := ?v17) rfl (by kernel_rfl) (by kernel_rfl) (by kernel_rfl) (fun _ _ _ h => h) (Or.inl ⟨by rfl, ?hy17⟩) hHeld ?rest17
              case hy17 => (intro w' hSw; (try dsimp only at hSw); go_simp; (try with_reducible rfl))
              try simp only [Act.put, List.setIfInBounds_toArray, List.set_cons_zero, List.set_cons_succ]
              refine wpAnyH_take (i := 21) (oi := { dst := some 108, op := Op.move (Operand.tmp 107), type := 4, pos := "law.go:61", after := #[{ on := 20, ground := Ground.data }, { on := 12, ground := Ground.chain }], guard := none }) (v := ?v18) rfl (by kernel_rfl) (by kernel_rfl) (by kernel_rfl) (fun _ _ _ h => h) (Or.inl ⟨by rfl, ?hy18⟩) hHeld ?rest18
              case hy18 => (intro w' hSw; (try dsimp only at hSw); go_simp; (try with_reducible rfl))
              try simp only [Act.put, List.setIfInBounds_toArray, List.set_cons_zero, List.set_cons_succ]
              refine wpAnyH_take (i := 22) (oi := { dst := some 109, op := Op.move (Operand.tmp 5), type := 23, pos := "law.go:61", after := #[{ on := 21, ground := Ground.guard }], guard := some (21, false) }) (v := ?v19) rfl (by kernel_rfl) (by kernel_rfl) (by kernel_rfl) (fun _ _ _ h => h) (Or.inl ⟨by rfl, ?hy19⟩) hHeld ?rest19
              case hy19 => (intro w' hSw; (try dsimp only at hSw); go_simp; (try with_reducible rfl))
              try simp only [Act.put, List.setIfInBounds_toArray, List.set_cons_zero, List.set_cons_succ]
              refine wpAnyH_take (i := 24) (oi := { dst := some 111, op := Op.load 28 (Operand.tmp 6), type := 28, pos := "law.go:61", after := #[{ on := 21, ground := Ground.guard }], guard := some (21, false) }) (v := .agg L.toArray) rfl (by kernel_rfl) (by kernel_rfl) (by kernel_rfl) (fun _ _ _ h => h) (yieldsIf_load_mid (by rfl) 28 (.tmp 6) rfl gd 0 (by rfl) L _ (fun _ h => h.1) Try.underlying28 rfl HLn.out) hHeld ?_
              try simp only [Act.put, List.setIfInBounds_toArray, List.set_cons_zero, List.set_cons_succ]
              refine wpAnyH_ready (rs := [23]) (by kernel_rfl) (by simp) (AllReadyH.cons (o := { dst := some 110, op := Op.call { callee := Callee.value (Operand.func 15), args := #[Operand.tmp 109], argTypes := #[23] }, type := 3, pos := "law.go:61", after := #[{ on := 22, ground := Ground.data }, { on := 21, ground := Ground.chain }, { on := 21, ground := Ground.guard }], guard := some (21, false) }) rfl (fun K hK => ?_) AllReadyH.nil)
              go_simp
              (with_reducible refine (CK.out _ (Below.refl _ _).drew).mono ?_)
              rintro e w6 ⟨rfl, s6⟩
              have C6 := Lib.hid (show Below w5.heap.size w5 w6 from (Below.refl _ _).drew.trans (s6.below w5.heap.size))
              clear s6
              go_wp2_with fail
              refine hK.out _ _ (HSk.out _ C6.out) (fun hHeld' => ?_)
              clear hK K hHeld
              have hHeld := hHeld'
              clear hHeld'
              try simp only [Act.put, List.setIfInBounds_toArray, List.set_cons_zero, List.set_cons_succ]
              refine wpAnyH_ready (rs := [25]) (by kernel_rfl) (by simp) (AllReadyH.cons (o := { dst := some 112, op := Op.call { callee := Callee.value (Operand.func 17), args := #[Operand.tmp 111], argTypes := #[28] }, type := 3, pos := "law.go:61", after := #[{ on := 24, ground := Ground.data }, { on := 23, ground := Ground.chain }, { on := 21, ground := Ground.guard }], guard := some (21, false) }) rfl (fun K hK => ?_) AllReadyH.nil)
              go_simp
              (with_reducible refine (CRL.out _).mono ?_)
              rintro e w7 ⟨rfl, h7⟩
              have C7 := Lib.hid (C6.out.trans (h7.mono C6.out.size))
              clear h7
              go_wp2_with fail
              refine hK.out _ _ (HSk.out _ C7.out) (fun hHeld' => ?_)
              clear hK K hHeld
              have hHeld := hHeld'
              clear hHeld'
              try simp only [Act.put, List.setIfInBounds_toArray, List.set_cons_zero, List.set_cons_succ]
              refine wpAnyH_ready (rs := [26]) (by kernel_rfl) (by simp) (AllReadyH.cons (o := { dst := some 113, op := Op.call { callee := Callee.value (Operand.func 16), args := #[Operand.tmp 112], argTypes := #[3] }, type := 3, pos := "law.go:61", after := #[{ on := 25, ground := Ground.data }, { on := 25, ground := Ground.chain }, { on := 21, ground := Ground.guard }], guard := some (21, false) }) rfl (fun K hK => ?_) AllReadyH.nil)
              go_simp
              (with_reducible refine (CZ.out _).mono ?_)
              rintro e w8 ⟨rfl, hw8⟩
              have C8 := Lib.hid (show Below w5.heap.size w5 w8 by rw [hw8]; exact C7.out)
              clear hw8
              go_wp2_with fail
              refine hK.out _ _ (HSk.out _ C8.out) (fun hHeld' => ?_)
              clear hK K hHeld
              have hHeld := hHeld'
              clear hHeld'
              try simp only [Act.put, List.setIfInBounds_toArray, List.set_cons_zero, List.set_cons_succ]
              refine wpAnyH_take (i := 27) (oi := { dst := some 114, op := Op.binOp BinOp.neq 3 (Operand.tmp 110) (Operand.tmp 113) 3, type := 4, pos := "law.go:61", after := #[{ on := 23, ground := Ground.data }, { on := 26, ground := Ground.data }, { on := 21, ground := Ground.guard }], guard := some (21, false) }) (v := ?v20) rfl (by kernel_rfl) (by kernel_rfl) (by kernel_rfl) (fun _ _ _ h => h) (Or.inl ⟨by rfl, ?hy20⟩) hHeld ?rest20
              case hy20 => (intro w' hSw; (try dsimp only at hSw); go_simp; (try with_reducible rfl))
              try simp only [Act.put, List.setIfInBounds_toArray, List.set_cons_zero, List.set_cons_succ]
              refine wpAnyH_take (i := 28) (oi := { dst := some 115, op := Op.pick (Operand.tmp 108) (Operand.const (Value.bool true)) (Operand.tmp 114), type := 4, pos := "law.go:61", after := #[{ on := 21, ground := Ground.data }, { on := 27, ground := Ground.data }], guard := none }) (v := ?v21) rfl (by kernel_rfl) (by kernel_rfl) (by kernel_rfl) (fun _ _ _ h => h) (Or.inl ⟨by rfl, ?hy21⟩) hHeld ?rest21
              case hy21 => (intro w' hSw; (try dsimp only at hSw); go_simp; (try with_reducible rfl))
              try simp only [Act.put, List.setIfInBounds_toArray, List.set_cons_zero, List.set_cons_succ]
              refine wpAnyH_done (by kernel_rfl) ?_ _
              go_wp2
              exact ⟨⟨j + 1, es', by omega, by go_num, Lib.hid (B5.out.on C8.out), Lib.hid (Blk.below Q6.out C8.out (Blk.lt Q6.out))⟩, by simp [intOf]; omega⟩
            · replace hsd : s.d = false := by simpa using hsd
              have HSD := Lib.hid hsd
              have st0 : wr.cell? ⟨gs, 0, none⟩ = some (.bool false) := by rw [← hsd]; exact Q2.out.cell 0
              clear hsd
              obtain ⟨xx, hxx⟩ : ∃ xx : Int, (bb.toNat : Int) + s.x.tmod 1000 = xx := ⟨_, rfl⟩
              have hxb : -1000 < s.x.tmod 1000 ∧ s.x.tmod 1000 < 1000 := ⟨Int.lt_tmod_of_pos _ (by omega), Int.tmod_lt_of_pos _ (by omega)⟩
              have st3 : wr.cell? ⟨gs, 3, none⟩ = some (.int .i64 s.x) := Q2.out.cell 3
              have CB := Lib.hid (S2.out.own_.set_ S2.out.below.size NB.out bb xx _ rfl)
              have CR := Lib.hid (fun V => rset_all S2.out.up bb xx V)
              have HLn := Lib.hid (len_ok es2)
              go_wp2_with fail
              try rw [hxx]
              (with_reducible refine CB.out.mono ?_)
              rintro e w1 ⟨rfl, o1, k1⟩
              have O1 := Lib.hid o1
              have D1 := Lib.hid (show Lst w1 gd (docL 256 es2) from k1.blk S2.out.doc (by rintro (q | ⟨_, q⟩); (have := GD.out; omega); exact q (Or.inl rfl)))
              have Q1 := Lib.hid (k1.blk Q2.out (by rintro (q | ⟨_, q⟩); (have := NG.out; omega); exact q (Or.inr rfl)))
              have Z1 := Lib.hid (S2.out.below.trans (k1.below S2.out.below.size (fun i q => by rcases q with q | q <;> omega)))
              have HR1 := Lib.hid (Lst.all D1.out)
              have st3 : w1.cell? ⟨gs, 3, none⟩ = some (.int .i64 s.x) := Q1.out.cell 3
              clear o1 k1 st0 st1 CB
              generalize hLL : docL 256 es2 = L at HR1 HLn CR
              go_wp2_with (refine wpList_load_mid rfl 28 (.tmp 6) rfl gd 0 rfl L _ HR1.out Try.underlying28 rfl HLn.out ?_)
              try rw [hxx]
              subst hLL
              (with_reducible refine (CR.out _).mono ?_)
              rintro e w2 ⟨rfl, h2⟩
              have O2 := Lib.hid (O1.out.below h2)
              have D2 := Lib.hid (show Lst w2 gd (docL 256 es2) from Blk.below D1.out h2 (Blk.lt D1.out))
              have Q3 := Lib.hid (Blk.below Q1.out h2 (Blk.lt Q1.out))
              have Z2 := Lib.hid (Z1.out.trans (h2.mono Z1.out.size))
              clear h2 HLn CR HR1
              have B3 := Lib.hid (lay_ok O2.out D2.out Z2.out (by have := GD.out; omega) (Or.inl rfl) (by have := GD.out; omega))
              have Q4 := Lib.hid ((Kept.setCells (· = gd) w2 gd 0 (docL 256 (setE es2 bb xx)).toArray.toList rfl).blk Q3.out (by have := NG.out; omega))
              have HT3 := Lib.hid (Lst.there D2.out (o := 0) (n := (docL 256 (setE es2 bb xx)).toArray.size) (by rw [docA_size, docL_length]; exact Nat.le_refl _))
              have HSz := Lib.hid (size_ok (setE es2 bb xx))
              have HOn := Lib.hid (all_oneCell_toArray (docL_one (room := 256) (es := setE es2 bb xx)))
              obtain ⟨w3, hw3⟩ : ∃ w3, w2.setCells gd 0 (docL 256 (setE es2 bb xx)).toArray.toList = w3 := ⟨_, rfl⟩
              rw [hw3] at B3 Q4
              have HW3 := Lib.hid hw3
              clear hw3
              generalize hes : setE es2 bb xx = es' at B3 HSz HOn HT3 HW3
              clear O1 D1 Q1 Z1 O2 D2 Q3 Z2 hes
              have CG := Lib.hid (B3.out.own_.get_ bb _ rfl)
              obtain ⟨hh, hhh⟩ : ∃ hh, hasE es' bb.toNat = hh := ⟨_, rfl⟩
              obtain ⟨vv, hvv⟩ : ∃ vv, getE es' bb.toNat = vv := ⟨_, rfl⟩
              have HH := Lib.hid (And.intro hhh hvv)
              rw [hhh, hvv] at CG
              clear hhh hvv
              generalize hLL : docL 256 es' = L at HSz HOn HT3 HW3
              go_wp2_with (refine wpList_store_mid rfl 28 (.tmp 6) (.tmp 79) rfl gd 0 L.toArray rfl rfl HT3.out HSz.out HOn.out ?_; rw [HW3.out])
              (with_reducible refine CG.out.mono ?_)
              rintro e w5 ⟨rfl, s5⟩
              have B5 := Lib.hid (B3.out.on (s5.below _))
              have Q6 := Lib.hid (Blk.below Q4.out (s5.below _) (Blk.lt Q4.out))
              have hl256 : es'.length ≤ 256 := B5.out.own_.few
              have HSk := Lib.hid (fun (V : World) (q : Below w5.heap.size w5 V) => show V.rangeAt gd 0 L ∧ V.cell? ⟨gd, 1 + bb.toNat, none⟩ = some (.bool hh) ∧ V.cell? ⟨gd, 257 + bb.toNat, none⟩ = some (.int .i64 vv) from by
                have hd := (B5.out.on q).doc
                exact ⟨hLL ▸ Lst.all hd, by rw [Lst.at_ hd, docL_has blt2, HH.out.1], by rw [Lst.at_ hd, docL_val blt2, HH.out.2]⟩)
              have HLn := Lib.hid (show (Try.prog.info? 28).map (·.size) = some L.length from hLL ▸ len_ok es')
              have CK := Lib.hid (fun (V : World) (q : Below w5.heap.size w5 V) => (B5.out.on q).own_.kind_)
              have CRL := Lib.hid (fun V => (show Calls Try.prog 17 #[.agg L.toArray] V fun e w' => e = .returned (.int .i64 (es'.length : Int)) ∧ Below V.heap.size V w' from hLL ▸ rlen_any (room := 256) B5.out.up V))
              have CZ := Lib.hid (fun V => (show Calls Try.prog 16 #[.int .i64 (es'.length : Int)] V fun e w' => e = .returned (.int .i64 (kindN es'.length : Int)) ∧ w' = V from by rw [← kindZ_nat hl256]; exact rkindof_any V _))
              clear s5 CG B3 Q4 HSz HOn HT3 HW3 hLL HH hl256
              generalize kindN es'.length = kn at CK CZ
              generalize es'.length = ln at CRL CZ
              go_wp2_with fail
              refine wp_region_held_drew (S := (fun w' => w'.rangeAt gd 0 L ∧ w'.cell? ⟨gd, 1 + bb.toNat, none⟩ = some (.bool hh) ∧ w'.cell? ⟨gd, 257 + bb.toNat, none⟩ = some (.int .i64 vv))) (by kernel_rfl) (HSk.out _ (Below.refl _ _).drew) (fun hHeld => ?_)
              refine wpAnyH_take (i := 0) (oi := { dst := some 87, op := Op.move (Operand.tmp 11), type := 33, pos := "law.go:61", after := #[], guard := none }) (v := ?v22) rfl (by kernel_rfl) (by kernel_rfl) (by kernel_rfl) (fun _ _ _ h => h) (Or.inl ⟨by rfl, ?hy22⟩) hHeld ?rest22
              case hy22 => (intro w' hSw; (try dsimp only at hSw); go_simp; (try with_reducible rfl))
              try simp only [Act.put, List.setIfInBounds_toArray, List.set_cons_zero, List.set_cons_succ]
              refine wpAnyH_take (i := 1) (oi := { dst := some 88, op := Op.move (Operand.tmp 12), type := 3, pos := "law.go:61", after := #[], guard := none }) (v := ?v23) rfl (by kernel_rfl) (by kernel_rfl) (by kernel_rfl) (fun _ _ _ h => h) (Or.inl ⟨by rfl, ?hy23⟩) hHeld ?rest23
              case hy23 => (intro w' hSw; (try dsimp only at hSw); go_simp; (try with_reducible rfl))
              try simp only [Act.put, List.setIfInBounds_toArray, List.set_cons_zero, List.set_cons_succ]
              refine wpAnyH_take (i := 2) (oi := { dst := some 89, op := Op.binOp BinOp.neq 3 (Operand.tmp 87) (Operand.tmp 88) 3, type := 4, pos := "law.go:61", after := #[{ on := 0, ground := Ground.data }, { on := 1, ground := Ground.data }], guard := none }) (v := ?v24) rfl (by kernel_rfl) (by kernel_rfl) (by kernel_rfl) (fun _ _ _ h => h) (Or.inl ⟨by rfl, ?hy24⟩) hHeld ?rest24
              case hy24 => (intro w' hSw; (try dsimp only at hSw); go_simp; (try with_reducible rfl))
              try simp only [Act.put, List.setIfInBounds_toArray, List.set_cons_zero, List.set_cons_succ]
              refine wpAnyH_take (i := 3) (oi := { dst := some 90, op := Op.move (Operand.tmp 89), type := 4, pos := "law.go:61", after := #[{ on := 2, ground := Ground.data }], guard := none }) (v := ?v25) rfl (by kernel_rfl) (by kernel_rfl) (by kernel_rfl) (fun _ _ _ h => h) (Or.inl ⟨by rfl, ?hy25⟩) hHeld ?rest25
              case hy25 => (intro w' hSw; (try dsimp only at hSw); go_simp; (try with_reducible rfl))
              try simp only [Act.put, List.setIfInBounds_toArray, List.set_cons_zero, List.set_cons_succ]
              refine wpAnyH_take (i := 4) (oi := { dst := some 91, op := Op.move (Operand.tmp 14), type := 4, pos := "law.go:61", after := #[{ on := 3, ground := Ground.guard }], guard := some (3, false) }) (v := ?v26) rfl (by kernel_rfl) (by kernel_rfl) (by kernel_rfl) (fun _ _ _ h => h) (Or.inl ⟨by rfl, ?hy26⟩) hHeld ?rest26
              case hy26 => (intro w' hSw; (try dsimp only at hSw); go_simp; (try with_reducible rfl))
              try simp only [Act.put, List.setIfInBounds_toArray, List.set_cons_zero, List.set_cons_succ]
              refine wpAnyH_take (i := 5) (oi := { dst := some 92, op := Op.move (Operand.tmp 10), type := 5, pos := "law.go:61", after := #[{ on := 3, ground := Ground.guard }], guard := some (3, false) }) (v := ?v27) rfl (by kernel_rfl) (by kernel_rfl) (by kernel_rfl) (fun _ _ _ h => h) (Or.inl ⟨by rfl, ?hy27⟩) hHeld ?rest27
              case hy27 => (intro w' hSw; (try dsimp only at hSw); go_simp; (try with_reducible rfl))
              try simp only [Act.put, List.setIfInBounds_toArray, List.set_cons_zero, List.set_cons_succ]
              refine wpAnyH_take (i := 6) (oi := { dst := some 93, op := Op.convert 5 3 (Operand.tmp 92), type := 3, pos := "law.go:61", after := #[{ on := 5, ground := Ground.data }, { on := 3, ground := Ground.guard }], guard := some (3, false) }) (v := .int .i64 (bb.toNat : Int)) rfl (by kernel_rfl) (by kernel_rfl) (by kernel_rfl) (fun _ _ _ h => h) (Or.inl ⟨by rfl, ?hyV⟩) hHeld ?_
              case hyV => (intro w' hSw; (try dsimp only at hSw); go_simp; (try rw [ew64]))
              try simp only [Act.put, List.setIfInBounds_toArray, List.set_cons_zero, List.set_cons_succ]
              refine wpAnyH_take (i := 7) (oi := { dst := some 94, op := Op.fieldAddr 28 (Operand.tmp 6) 1, type := 0, pos := "law.go:61", after := #[{ on := 3, ground := Ground.guard }], guard := some (3, false) }) (v := ?v28) rfl (by kernel_rfl) (by kernel_rfl) (by kernel_rfl) (fun _ _ _ h => h) (Or.inl ⟨by rfl, ?hy28⟩) hHeld ?rest28
              case hy28 => (intro w' hSw; (try dsimp only at hSw); go_simp; (try with_reducible rfl))
              try simp only [Act.put, List.setIfInBounds_toArray, List.set_cons_zero, List.set_cons_succ]
              refine wpAnyH_take (i := 8) (oi := { dst := some 95, op := Op.indexAddr 25 (Operand.tmp 94) (Operand.tmp 93), type := 0, pos := "law.go:61", after := #[{ on := 7, ground := Ground.data }, { on := 6, ground := Ground.data }, { on := 3, ground := Ground.guard }], guard := some (3, false) }) (v := .pointer (some ⟨gd, 1 + bb.toNat, none⟩)) rfl (by kernel_rfl) (by kernel_rfl) (by kernel_rfl) (fun _ _ _ h => h) (Or.inl ⟨by rfl, ?hyV⟩) hHeld ?_
              case hyV => (intro w' hSw; (try dsimp only at hSw); go_simp; (try rw [if_pos ⟨by omega, hbi⟩]); (try simp only [Int.toNat_natCast]); (try rfl))
              try simp only [Act.put, List.setIfInBounds_toArray, List.set_cons_zero, List.set_cons_succ]
              refine wpAnyH_take (i := 9) (oi := { dst := some 96, op := Op.load 4 (Operand.tmp 95), type := 4, pos := "law.go:61", after := #[{ on := 8, ground := Ground.data }, { on := 3, ground := Ground.guard }], guard := some (3, false) }) (v := ?v29) rfl (by kernel_rfl) (by kernel_rfl) (by kernel_rfl) (fun _ _ _ h => h) (Or.inl ⟨by rfl, ?hy29⟩) hHeld ?rest29
              case hy29 => (intro w' hSw; (try dsimp only at hSw); go_simp; (try with_reducible rfl))
              try simp only [Act.put, List.setIfInBounds_toArray, List.set_cons_zero, List.set_cons_succ]
              refine wpAnyH_take (i := 10) (oi := { dst := some 97, op := Op.binOp BinOp.neq 4 (Operand.tmp 91) (Operand.tmp 96) 4, type := 4, pos := "law.go:61", after := #[{ on := 4, ground := Ground.data }, { on := 9, ground := Ground.data }, { on := 3, ground := Ground.guard }], guard := some (3, false) }) (v := ?v30) rfl (by kernel_rfl) (by kernel_rfl) (by kernel_rfl) (fun _ _ _ h => h) (Or.inl ⟨by rfl, ?hy30⟩) hHeld ?rest30
              case hy30 => (intro w' hSw; (try dsimp only at hSw); go_simp; (try with_reducible rfl))
              try simp only [Act.put, List.setIfInBounds_toArray, List.set_cons_zero, List.set_cons_succ]
              refine wpAnyH_take (i := 11) (oi := { dst := some 98, op := Op.pick (Operand.tmp 90) (Operand.const (Value.bool true)) (Operand.tmp 97), type := 4, pos := "law.go:61", after := #[{ on := 3, ground := Ground.data }, { on := 10, ground := Ground.data }], guard := none }) (v := ?v31) rfl (by kernel_rfl) (by kernel_rfl) (by kernel_rfl) (fun _ _ _ h => h) (Or.inl ⟨by rfl, ?hy31⟩) hHeld ?rest31
              case hy31 => (intro w' hSw; (try dsimp only at hSw); go_simp; (try with_reducible rfl))
              try simp only [Act.put, List.setIfInBounds_toArray, List.set_cons_zero, List.set_cons_succ]
              refine wpAnyH_take (i := 12) (oi := { dst := some 99, op := Op.move (Operand.tmp 98), type := 4, pos := "law.go:61", after := #[{ on := 11, ground := Ground.data }, { on := 3, ground := Ground.chain }], guard := none }) (v := ?v32) rfl (by kernel_rfl) (by kernel_rfl) (by kernel_rfl) (fun _ _ _ h => h) (Or.inl ⟨by rfl, ?hy32⟩) hHeld ?rest32
              case hy32 => (intro w' hSw; (try dsimp only at hSw); go_simp; (try with_reducible rfl))
              try simp only [Act.put, List.setIfInBounds_toArray, List.set_cons_zero, List.set_cons_succ]
              refine wpAnyH_take (i := 13) (oi := { dst := some 100, op := Op.move (Operand.tmp 13), type := 3, pos := "law.go:61", after := #[{ on := 12, ground := Ground.guard }], guard := some (12, false) }) (v := ?v33) rfl (by kernel_rfl) (by kernel_rfl) (by kernel_rfl) (fun _ _ _ h => h) (Or.inl ⟨by rfl, ?hy33⟩) hHeld ?rest33
              case hy33 => (intro w' hSw; (try dsimp only at hSw); go_simp; (try with_reducible rfl))
              try simp only [Act.put, List.setIfInBounds_toArray, List.set_cons_zero, List.set_cons_succ]
              refine wpAnyH_take (i := 14) (oi := { dst := some 101, op := Op.move (Operand.tmp 10), type := 5, pos := "law.go:61", after := #[{ on := 12, ground := Ground.guard }], guard := some (12, false) }) (v := ?v34) rfl (by kernel_rfl) (by kernel_rfl) (by kernel_rfl) (fun _ _ _ h => h) (Or.inl ⟨by rfl, ?hy34⟩) hHeld ?rest34
              case hy34 => (intro w' hSw; (try dsimp only at hSw); go_simp; (try with_reducible rfl))
              try simp only [Act.put, List.setIfInBounds_toArray, List.set_cons_zero, List.set_cons_succ]
              refine wpAnyH_take (i := 15) (oi := { dst := some 102, op := Op.convert 5 3 (Operand.tmp 101), type := 3, pos := "law.go:61", after := #[{ on := 14, ground := Ground.data }, { on := 12, ground := Ground.guard }], guard := some (12, false) }) (v := .int .i64 (bb.toNat : Int)) rfl (by kernel_rfl) (by kernel_rfl) (by kernel_rfl) (fun _ _ _ h => h) (Or.inl ⟨by rfl, ?hyV⟩) hHeld ?_
              case hyV => (intro w' hSw; (try dsimp only at hSw); go_simp; (try rw [ew64]))
              try simp only [Act.put, List.setIfInBounds_toArray, List.set_cons_zero, List.set_cons_succ]
              refine wpAnyH_take (i := 16) (oi := { dst := some 103, op := Op.fieldAddr 28 (Operand.tmp 6) 2, type := 0, pos := "law.go:61", after := #[{ on := 12, ground := Ground.guard }], guard := some (12, false) }) (v := ?v35) rfl (by kernel_rfl) (by kernel_rfl) (by kernel_rfl) (fun _ _ _ h => h) (Or.inl ⟨by rfl, ?hy35⟩) hHeld ?rest35
              case hy35 => (intro w' hSw; (try dsimp only at hSw); go_simp; (try with_reducible rfl))
              try simp only [Act.put, List.setIfInBounds_toArray, List.set_cons_zero, List.set_cons_succ]
              refine wpAnyH_take (i := 17) (oi := { dst := some 104, op := Op.indexAddr 26 (Operand.tmp 103) (Operand.tmp 102), type := 0, pos := "law.go:61", after := #[{ on := 16, ground := Ground.data }, { on := 15, ground := Ground.data }, { on := 12, ground := Ground.guard }], guard := some (12, false) }) (v := .pointer (some ⟨gd, 257 + bb.toNat, none⟩)) rfl (by kernel_rfl) (by kernel_rfl) (by kernel_rfl) (fun _ _ _ h => h) (Or.inl ⟨by rfl, ?hyV⟩) hHeld ?_
              case hyV => (intro w' hSw; (try dsimp only at hSw); go_simp; (try rw [if_pos ⟨by omega, hbi⟩]); (try simp only [Int.toNat_natCast]); (try rfl))
              try simp only [Act.put, List.setIfInBounds_toArray, List.set_cons_zero, List.set_cons_succ]
              refine wpAnyH_take (i := 18) (oi := { dst := some 105, op := Op.load 3 (Operand.tmp 104), type := 3, pos := "law.go:61", after := #[{ on := 17, ground := Ground.data }, { on := 12, ground := Ground.guard }], guard := some (12, false) }) (v := ?v36) rfl (by kernel_rfl) (by kernel_rfl) (by kernel_rfl) (fun _ _ _ h => h) (Or.inl ⟨by rfl, ?hy36⟩) hHeld ?rest36
              case hy36 => (intro w' hSw; (try dsimp only at hSw); go_simp; (try with_reducible rfl))
              try simp only [Act.put, List.setIfInBounds_toArray, List.set_cons_zero, List.set_cons_succ]
              refine wpAnyH_take (i := 19) (oi := { dst := some 106, op := Op.binOp BinOp.neq 3 (Operand.tmp 100) (Operand.tmp 105) 3, type := 4, pos := "law.go:61", after := #[{ on := 13, ground := Ground.data }, { on := 18, ground := Ground.data }, { on := 12, ground := Ground.guard }], guard := some (12, false) }) (v := ?v37) rfl (by kernel_rfl) (by kernel_rfl) (by kernel_rfl) (fun _ _ _ h => h) (Or.inl ⟨by rfl, ?hy37⟩) hHeld ?rest37
              case hy37 => (intro w' hSw; (try dsimp only at hSw); go_simp; (try with_reducible rfl))
              try simp only [Act.put, List.setIfInBounds_toArray, List.set_cons_zero, List.set_cons_succ]
              refine wpAnyH_take (i := 20) (oi := { dst := some 107, op := Op.pick (Operand.tmp 99) (Operand.const (Value.bool true)) (Operand.tmp 106), type := 4, pos := "law.go:61", after := #[{ on := 12, ground := Ground.data }, { on := 19, ground := Ground.data }], guard := none }) (v := ?v38) rfl (by kernel_rfl) (by kernel_rfl) (by kernel_rfl) (fun _ _ _ h => h) (Or.inl ⟨by rfl, ?hy38⟩) hHeld ?rest38
              case hy38 => (intro w' hSw; (try dsimp only at hSw); go_simp; (try with_reducible rfl))
              try simp only [Act.put, List.setIfInBounds_toArray, List.set_cons_zero, List.set_cons_succ]
              refine wpAnyH_take (i := 21) (oi := { dst := some 108, op := Op.move (Operand.tmp 107), type := 4, pos := "law.go:61", after := #[{ on := 20, ground := Ground.data }, { on := 12, ground := Ground.chain }], guard := none }) (v := ?v39) rfl (by kernel_rfl) (by kernel_rfl) (by kernel_rfl) (fun _ _ _ h => h) (Or.inl ⟨by rfl, ?hy39⟩) hHeld ?rest39
              case hy39 => (intro w' hSw; (try dsimp only at hSw); go_simp; (try with_reducible rfl))
              try simp only [Act.put, List.setIfInBounds_toArray, List.set_cons_zero, List.set_cons_succ]
              refine wpAnyH_take (i := 22) (oi := { dst := some 109, op := Op.move (Operand.tmp 5), type := 23, pos := "law.go:61", after := #[{ on := 21, ground := Ground.guard }], guard := some (21, false) }) (v := ?v40) rfl (by kernel_rfl) (by kernel_rfl) (by kernel_rfl) (fun _ _ _ h => h) (Or.inl ⟨by rfl, ?hy40⟩) hHeld ?rest40
              case hy40 => (intro w' hSw; (try dsimp only at hSw); go_simp; (try with_reducible rfl))
              try simp only [Act.put, List.setIfInBounds_toArray, List.set_cons_zero, List.set_cons_succ]
              refine wpAnyH_take (i := 24) (oi := { dst := some 111, op := Op.load 28 (Operand.tmp 6), type := 28, pos := "law.go:61", after := #[{ on := 21, ground := Ground.guard }], guard := some (21, false) }) (v := .agg L.toArray) rfl (by kernel_rfl) (by kernel_rfl) (by kernel_rfl) (fun _ _ _ h => h) (yieldsIf_load_mid (by rfl) 28 (.tmp 6) rfl gd 0 (by rfl) L _ (fun _ h => h.1) Try.underlying28 rfl HLn.out) hHeld ?_
              try simp only [Act.put, List.setIfInBounds_toArray, List.set_cons_zero, List.set_cons_succ]
              refine wpAnyH_ready (rs := [23]) (by kernel_rfl) (by simp) (AllReadyH.cons (o := { dst := some 110, op := Op.call { callee := Callee.value (Operand.func 15), args := #[Operand.tmp 109], argTypes := #[23] }, type := 3, pos := "law.go:61", after := #[{ on := 22, ground := Ground.data }, { on := 21, ground := Ground.chain }, { on := 21, ground := Ground.guard }], guard := some (21, false) }) rfl (fun K hK => ?_) AllReadyH.nil)
              go_simp
              (with_reducible refine (CK.out _ (Below.refl _ _).drew).mono ?_)
              rintro e w6 ⟨rfl, s6⟩
              have C6 := Lib.hid (show Below w5.heap.size w5 w6 from (Below.refl _ _).drew.trans (s6.below w5.heap.size))
              clear s6
              go_wp2_with fail
              refine hK.out _ _ (HSk.out _ C6.out) (fun hHeld' => ?_)
              clear hK K hHeld
              have hHeld := hHeld'
              clear hHeld'
              try simp only [Act.put, List.setIfInBounds_toArray, List.set_cons_zero, List.set_cons_succ]
              refine wpAnyH_ready (rs := [25]) (by kernel_rfl) (by simp) (AllReadyH.cons (o := { dst := some 112, op := Op.call { callee := Callee.value (Operand.func 17), args := #[Operand.tmp 111], argTypes := #[28] }, type := 3, pos := "law.go:61", after := #[{ on := 24, ground := Ground.data }, { on := 23, ground := Ground.chain }, { on := 21, ground := Ground.guard }], guard := some (21, false) }) rfl (fun K hK => ?_) AllReadyH.nil)
              go_simp
              (with_reducible refine (CRL.out _).mono ?_)
              rintro e w7 ⟨rfl, h7⟩
              have C7 := Lib.hid (C6.out.trans (h7.mono C6.out.size))
              clear h7
              go_wp2_with fail
              refine hK.out _ _ (HSk.out _ C7.out) (fun hHeld' => ?_)
              clear hK K hHeld
              have hHeld := hHeld'
              clear hHeld'
              try simp only [Act.put, List.setIfInBounds_toArray, List.set_cons_zero, List.set_cons_succ]
              refine wpAnyH_ready (rs := [26]) (by kernel_rfl) (by simp) (AllReadyH.cons (o := { dst := some 113, op := Op.call { callee := Callee.value (Operand.func 16), args := #[Operand.tmp 112], argTypes := #[3] }, type := 3, pos := "law.go:61", after := #[{ on := 25, ground := Ground.data }, { on := 25, ground := Ground.chain }, { on := 21, ground := Ground.guard }], guard := some (21, false) }) rfl (fun K hK => ?_) AllReadyH.nil)
              go_simp
              (with_reducible refine (CZ.out _).mono ?_)
              rintro e w8 ⟨rfl, hw8⟩
              have C8 := Lib.hid (show Below w5.heap.size w5 w8 by rw [hw8]; exact C7.out)
              clear hw8
              go_wp2_with fail
              refine hK.out _ _ (HSk.out _ C8.out) (fun hHeld' => ?_)
              clear hK K hHeld
              have hHeld := hHeld'
              clear hHeld'
              try simp only [Act.put, List.setIfInBounds_toArray, List.set_cons_zero, List.set_cons_succ]
              refine wpAnyH_take (i := 27) (oi := { dst := some 114, op := Op.binOp BinOp.neq 3 (Operand.tmp 110) (Operand.tmp 113) 3, type := 4, pos := "law.go:61", after := #[{ on := 23, ground := Ground.data }, { on := 26, ground := Ground.data }, { on := 21, ground := Ground.guard }], guard := some (21, false) }) (v := ?v41) rfl (by kernel_rfl) (by kernel_rfl) (by kernel_rfl) (fun _ _ _ h => h) (Or.inl ⟨by rfl, ?hy41⟩) hHeld ?rest41
              case hy41 => (intro w' hSw; (try dsimp only at hSw); go_simp; (try with_reducible rfl))
              try simp only [Act.put, List.setIfInBounds_toArray, List.set_cons_zero, List.set_cons_succ]
              refine wpAnyH_take (i := 28) (oi := { dst := some 115, op := Op.pick (Operand.tmp 108) (Operand.const (Value.bool true)) (Operand.tmp 114), type := 4, pos := "law.go:61", after := #[{ on := 21, ground := Ground.data }, { on := 27, ground := Ground.data }], guard := none }) (v := ?v42) rfl (by kernel_rfl) (by kernel_rfl) (by kernel_rfl) (fun _ _ _ h => h) (Or.inl ⟨by rfl, ?hy42⟩) hHeld ?rest42
              case hy42 => (intro w' hSw; (try dsimp only at hSw); go_simp; (try with_reducible rfl))
              try simp only [Act.put, List.setIfInBounds_toArray, List.set_cons_zero, List.set_cons_succ]
              refine wpAnyH_done (by kernel_rfl) ?_ _
              go_wp2
              exact ⟨⟨j + 1, es', by omega, by go_num, Lib.hid (B5.out.on C8.out), Lib.hid (Blk.below Q6.out C8.out (Blk.lt Q6.out))⟩, by simp [intOf]; omega⟩
          · obtain rfl : j = M + 1 := by omega
            have CA := Lib.hid (fun (U : World) (q : Pst w gd w.heap.size (fun i => i = gd ∨ i = gs) es2 U) => (show Calls Try.prog 9 #[.pointer (some ⟨w.heap.size, 0, none⟩), .agg (docL 256 es2).toArray, .int .i64 y] U fun e w' => e = .returned (.bool true) ∧ Below U.heap.size U w' from kas_any q.own_ y HY.out))
            have CA2 := Lib.hid (fun (U : World) (q : Pst w gd w.heap.size (fun i => i = gd ∨ i = gs) es2 U) => (show Calls Try.prog 9 #[.pointer (some ⟨w.heap.size, 0, none⟩), .agg (docL 256 es2).toArray, .int .i64 (s.b.toNat : Int)] U fun e w' => e = .returned (.bool true) ∧ Below U.heap.size U w' from kas_any q.own_ (s.b.toNat : Int) (by have := s.b.toNat_lt; omega)))
            have HLn := Lib.hid (len_ok es2)
            have HR3 := Lib.hid (Lst.all S2.out.doc)
            have blt := s.b.toNat_lt
            generalize hLL : docL 256 es2 = L at HLn CA CA2 HR3
            go_wp2_with (refine wpList_load_mid rfl 28 (.tmp 6) rfl gd 0 rfl L _ HR3.out Try.underlying28 rfl HLn.out ?_)
            (with_reducible refine (CA.out _ S2.out).mono ?_)
            rintro e w4 ⟨rfl, h4⟩
            have B4 := Lib.hid (S2.out.on h4)
            have Q4 := Lib.hid (Blk.below Q2.out h4 (Blk.lt Q2.out))
            have st1 : w4.cell? ⟨gs, 1, none⟩ = some (.int .u8 (s.b.toNat : Int)) := Q4.out.cell 1
            have HR4 := Lib.hid (Lst.all B4.out.doc)
            rw [hLL] at HR4
            clear h4 HR3
            go_wp2_with (refine wpList_load_want (by rfl) 28 (.tmp 6) rfl gd 0 rfl L _ HR4.out Try.underlying28 rfl HLn.out ?_)
            (with_reducible refine (CA2.out _ B4.out).mono ?_)
            rintro e w5 ⟨rfl, h5⟩
            have B5 := Lib.hid (B4.out.on h5)
            have B6 := Lib.hid (show Pst w gd w.heap.size (· = gd) es2 w5 from ⟨B5.out.own_.fewer (fun i q => Or.inl q), B5.out.doc, B5.out.below⟩)
            clear h5
            go_wp2
            exact ⟨⟨k + 1, es2, by omega, by go_num, B6⟩, by simp [intOf]; omega⟩
      · obtain rfl : k = m := by omega
        go_wp2_with fail
        (with_reducible refine (kalive_any _).mono ?_)
        rintro e w3 ⟨rfl, h3⟩
        have B3 := Lib.hid (BK.out.below.trans (h3.mono BK.out.below.size))
        clear h3
        go_wp2
        go_ret
        exact ⟨rfl, B3.out⟩

set_option maxRecDepth 100000 in
theorem lifted (os : Os) (started : os.Started) (H : Type) (enc : TypeId × Value → H) :
    ReturnsInHanded {} Try.checked os 3 .any (Rows.kidsPlaysSpec.pre6 enc Try.prog Try.f3 Rows.kidsPlaysRow.domain false) (Rows.kidsPlaysSpec.post enc Try.prog Try.f3 false true false false) := by
  refine returnsInHanded_of_change (C := Try.checked) own started (by kernel_rfl) Try.func3
    (ChangeSpec.witness6 (enc := enc) (C := Try.checked) false ⟨#[], #[.slice none 0 0, .int .i64 0], []⟩ 8 (by kernel_rfl) (by kernel_rfl) (by kernel_rfl) (by kernel_rfl)) ?_
  intro W base args ds gs before hval0 hW hcnd _
  have hval : ∀ (j : Nat) t v, Try.f3.params[j]? = some t → args[j]? = some v → Value.okWide Try.prog W .any base t v := hval0
  have hW' := hW
  obtain ⟨p, q, hA0, hV, rfl, hfz, hnd⟩ := hW
  have hA : DataW.TrodAll enc Try.prog W 0 (fun _ => true) true Try.f3.params.toList args.toList ds p := hA0
  rw [Try.params3] at hA hval
  obtain ⟨v0, vs0, d0, ds0, p0, q0, hargs, rfl, rfl, h0, r0⟩ := trodAll_cons hA
  obtain ⟨v1, vs1, d1, ds1, p1, q1, rfl, rfl, rfl, h1, r1⟩ := trodAll_cons r0
  obtain ⟨rfl, rfl, rfl⟩ := trodAll_nil r1
  obtain rfl : args = #[v0, v1] := by cases args; simp_all
  obtain ⟨rfl, rfl⟩ := trodVars_none hV
  have k0 := h0
  have lt0 : ∀ x ∈ p0, x.block < W.heap.size := by obtain ⟨m, hm⟩ := k0; exact DataW.trod_lt m _ _ _ hm
  have k1 := h1
  have lt1 : ∀ x ∈ p1, x.block < W.heap.size := by obtain ⟨m, hm⟩ := k1; exact DataW.trod_lt m _ _ _ hm
  obtain ⟨A0, n0, c0, l0, rfl, b0, nc0⟩ := open_sts (hval 0 22 v0 rfl rfl) h0
  obtain ⟨x1, rfl, _, _, wx1⟩ := open_int Try.underlying3 (hval 1 3 v1 rfl rfl) h1
  clear hA0 hval0
  refine (walk A0 n0 c0 l0 x1 W b0 nc0 wx1).mono fun e W' ⟨he, bel⟩ => ?_
  subst he
  exact ⟨_, rfl, _, _, _, [], _, [], hW', trodAll_mk1 (shut_bool Try.underlying4 _), (trodAll_cons_mk (Below.trod laidOut (by kernel_rfl) (of_decide_eq_true (by kernel_rfl)) k0 bel lt0) (trodAll_cons_mk (Below.trod laidOut (by kernel_rfl) (of_decide_eq_true (by kernel_rfl)) k1 bel lt1) trodAll_mk0)), rfl, bel.frame _, fun h => by cases h⟩

set_option maxRecDepth 100000 in
theorem proved : Rows.KidsPlaysSaid :=
  OpenClaim.holds_of_wide 3 Try.f3 rfl rfl rfl rfl rfl rfl rfl ⟨rfl, rfl, rfl, rfl, rfl⟩ rfl rfl rfl rfl rfl (by kernel_rfl) Try.func3 (by kernel_rfl)
    (of_decide_eq_true (by kernel_rfl)) (by unfold Func.isWrapper; first | (rw [if_pos (by decide +kernel)]; kernel_rfl) | (rw [if_neg (by decide +kernel)]; exact ⟨rfl, rfl⟩))
    (fun os started H enc _ => lifted os started H enc)
end Go.Proofs.Ytahmalmpbdfnhaa.kidsPlays
