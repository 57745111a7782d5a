/-
  Proved here: a row of any room answers every call, in every order, as the document's does, and holds what this does; nothing that came in is turned. No condition.
-/
import Derived.Test.YtcaacpjkpjhehaaRow
import Derived.Test.YtcaacpjkpjhehaaSmAs
import Derived.Test.YtcaacpjkpjhehaaSmAlive
import Derived.Deep.CutBlock
import Derived.Deep.DeepCutAuto
namespace Go.Proofs.Ytcaacpjkpjhehaa.smallPlays
open Go.ChangeShapes Go.WideShapes Go.ChangeAt Go.RowKit

/-- A great load whose guard is met. -/
theorem wpList_load_want {P : Program} {ops : Array Oper} {rest : List Oper} {op : Oper} {a : Act} {w : World} {Q : Exit → Act → World → Prop} (hw : Region.wanted op (yielded ops a.tmps) = true) (ty : TypeId) (x : Operand) (ho : op.op = .load ty x)
    (b o : Nat) (hx : a.eval x = .pointer (some ⟨b, o, none⟩)) (cs : List Value) (d : TypeDesc) (hc : w.rangeAt b o cs)
    (hu : P.underlying ty = some d) (hd : d.isRow = true) (hi : (P.info? ty).map (·.size) = some cs.length)
    (h : wpList P ops Q rest (a.put op.dst (.agg cs.toArray)) w) : wpList P ops Q (op :: rest) a w :=
  wpList_step fun _ hK => by rw [if_pos hw]; exact wp_load_mid ty x ho b o hx cs d hc hu hd hi (hK _ _ h)

/-- The row and the document's hold es, each in blocks of its own. -/
structure Both (w0 : World) (gd r : Nat) (es : List Ent) (w : World) : Prop where
  sm : Sm w (w0.heap.size + 1) w0.heap.size r es
  doc : Lst w gd (docL r es)
  below : Below w0.heap.size w0 w
section
variable {w0 w w' : World} {gd r : Nat} {es : List Ent}
theorem Both.on (h : Both w0 gd r es w) (hb : Below w.heap.size w w') : Both w0 gd r es w' :=
  ⟨h.sm.below hb, Blk.below h.doc hb (Blk.lt h.doc), h.below.trans (hb.mono h.below.size)⟩
end
set_option maxRecDepth 100000 in
theorem len_ok (r : Nat) (es : List Ent) : (Try.prog.info? 30).map (·.size) = some (docL r es).length := by rw [docL_length]; exact doc_size
set_option maxRecDepth 100000 in
theorem size_ok (r : Nat) (es : List Ent) : (Try.prog.info? 30).map (·.size) = some (docL r es).toArray.size := by rw [docA_size]; exact doc_size
/-- The document's row is laid over. -/
theorem lay_ok {w0 w : World} {gd r : Nat} {es es' : List Ent} (hs : Sm w (w0.heap.size + 1) w0.heap.size r es') (hd : Lst w gd (docL r es)) (hb : Below w0.heap.size w0 w) (h1 : w0.heap.size + 1 < gd) :
    Both w0 gd r es' (w.setCells gd 0 (docL r es').toArray.toList) := by
  have k := Kept.setCells (· = gd) w gd 0 (docL r es').toArray.toList rfl
  exact ⟨hs.kept k (by omega) (by omega), doc_over hd docL_length, hb.trans (k.below hb.size (fun q hq => by omega))⟩

set_option maxRecDepth 100000 in
set_option maxHeartbeats 4000000 in
theorem walk (x : Int) (A : Option Addr) (n c : Nat) (ss : List Stp) (y : Int) (w : World) (wx : (Lit.int .i64 x).wf = true) (hs : Sts w w.heap.size A n ss) (nc : n ≤ c) (wy : (Lit.int .i64 y).wf = true) :
    Calls Try.prog 3 #[.int .i64 x, .slice A n c, .int .i64 y] w fun e w' => e = .returned (.bool true) ∧ Below w.heap.size w w' := by
  have hmx : n ≤ 9223372036854775807 := by have := hs.2.1; unfold maxLen at this; omega
  have hy : -9223372036854775808 ≤ y ∧ y ≤ 9223372036854775807 := by simpa [Lit.wf, IntKind.min, IntKind.max, IntKind.signed, IntKind.bits] using wy
  have HY := Lib.hid hy
  clear wy hy
  by_cases hr : x < 1 ∨ 16 < x
  · have C := Lib.hid (snew_no w x hr)
    have D := Lib.hid (fun V => rnew_any V x 0 1 (.inl ⟨hr, rfl, rfl⟩))
    have HSz := Lib.hid (size_ok 0 [])
    have HOn := Lib.hid (all_oneCell_toArray (docL_one (room := 0) (es := [])))
    have HT := Lib.hid (fun (V : World) => Lst.there (show Lst (V.alloc (.cells zeroL.toArray 30)) V.heap.size zeroL from Blk.new V _ _) (o := 0) (n := (docL 0 []).toArray.size) (by rw [docA_size, zeroL_length]; exact Nat.le_refl _))
    clear hs
    generalize docL 0 [] = L at D HSz HOn HT
    go_enter Try.func3, Try.ntmps3
    go_wp2_with fail
    (with_reducible refine C.out.mono ?_)
    rintro e w' ⟨rfl, rfl⟩
    go_wp2_with fail
    (with_reducible refine (D.out _).mono ?_)
    rintro e w1 ⟨rfl, h1⟩
    have B1 := Lib.hid (show Below w'.heap.size w' ((w1.alloc (.cells zeroL.toArray 30)).setCells w1.heap.size 0 L.toArray.toList) from
      h1.trans (((Kept.of_below ((Below.refl _ _).alloc (Nat.le_refl _) _)).trans (Kept.setCells (· = w1.heap.size) _ _ _ _ rfl)).below h1.size (fun q hq => by have := h1.size; omega)))
    obtain ⟨V, hV⟩ : ∃ V, (w1.alloc (.cells zeroL.toArray 30)).setCells w1.heap.size 0 L.toArray.toList = V := ⟨_, rfl⟩
    rw [hV] at B1
    have HV := Lib.hid hV
    clear h1 hV
    go_wp2_with (first
      | (refine wpList_alloc_z rfl 30 rfl zeroL.toArray doc_zero ?_)
      | (refine wpList_store_mid rfl 30 (.tmp 9) (.tmp 23) rfl w1.heap.size 0 L.toArray rfl rfl (HT.out w1) HSz.out HOn.out ?_; rw [HV.out]))
    (with_reducible refine (salive_any _).mono ?_)
    rintro e w2 ⟨rfl, h2⟩
    have B2 := Lib.hid (B1.out.trans (h2.mono B1.out.size))
    clear h2
    go_wp2
    go_ret
    exact ⟨rfl, B2.out⟩
  · obtain ⟨r, rfl⟩ : ∃ r : Nat, x = (r : Int) := ⟨x.toNat, by omega⟩
    have C := Lib.hid (snew_yes w r (by omega) (by omega))
    have D := Lib.hid (fun V => rnew_any V (r : Int) r 0 (.inr ⟨by omega, rfl, rfl⟩))
    have HSz := Lib.hid (size_ok r [])
    have HOn := Lib.hid (all_oneCell_toArray (docL_one (room := r) (es := [])))
    have HT := Lib.hid (fun (V : World) => Lst.there (show Lst (V.alloc (.cells zeroL.toArray 30)) V.heap.size zeroL from Blk.new V _ _) (o := 0) (n := (docL r []).toArray.size) (by rw [docA_size, zeroL_length]; exact Nat.le_refl _))
    have HS := Lib.hid hs
    clear hs hr wx
    go_enter Try.func3, Try.ntmps3
    go_wp2_with fail
    (with_reducible refine C.out.mono ?_)
    rintro e W1 ⟨rfl, h1, b1⟩
    have S1 := Lib.hid h1
    have B1 := Lib.hid b1
    clear h1 b1 C
    go_wp2_with fail
    (with_reducible refine (D.out _).mono ?_)
    rintro e W2 ⟨rfl, h2⟩
    have S2 := Lib.hid (S1.out.below h2)
    have Z2 := Lib.hid (B1.out.trans (h2.mono B1.out.size))
    obtain ⟨gd, hgd⟩ : ∃ gd, W2.heap.size = gd := ⟨_, rfl⟩
    have GD := Lib.hid (show w.heap.size + 1 < gd by have := S2.out.lt; omega)
    obtain ⟨V, hV⟩ : ∃ V, (W2.alloc (.cells zeroL.toArray 30)).setCells W2.heap.size 0 (docL r []).toArray.toList = V := ⟨_, rfl⟩
    have BV := Lib.hid (show Both w gd r [] V from by
      have hz : Lst (W2.alloc (.cells zeroL.toArray 30)) W2.heap.size zeroL := Blk.new W2 _ _
      have k : Kept (· = W2.heap.size) W2 V := by rw [← hV]; exact (Kept.of_below ((Below.refl _ _).alloc (Nat.le_refl _) _)).trans (Kept.setCells (· = W2.heap.size) _ _ _ _ rfl)
      refine ⟨S2.out.kept k (by have := GD.out; omega) (by have := GD.out; omega), ?_, Z2.out.trans (k.below Z2.out.size (fun q hq => by have := GD.out; omega))⟩
      rw [← hgd, ← hV]
      exact doc_over hz zeroL_length)
    have HV := Lib.hid hV
    clear h2 hV S1 B1 D
    generalize docL r [] = L at HSz HOn HT HV ⊢
    go_upto_region 5 with (first
      | (refine wpList_alloc_z rfl 30 rfl zeroL.toArray doc_zero ?_)
      | (refine wpList_store_mid rfl 30 (.tmp 9) (.tmp 23) rfl W2.heap.size 0 L.toArray rfl rfl (HT.out W2) HSz.out HOn.out ?_; rw [HV.out]))
    try rw [hgd]
    clear HT HSz HOn HV hgd S2 Z2
    go_cut [46, 47, 48] (fun s46 s47 s48 wc => ∃ m : Nat, m ≤ n ∧ m ≤ 60 ∧ s46 = .slice A m c ∧ s47 = .int .i64 m ∧ s48 = .int .i64 0 ∧ wc = V)
    case first =>
      by_cases h60 : n ≤ 60
      all_goals
        go_wp2_with fail
        go_meet
      · exact ⟨n, Nat.le_refl _, h60, rfl, rfl, rfl, rfl⟩
      · exact ⟨60, by omega, Nat.le_refl _, rfl, rfl, rfl, rfl⟩
    case rest =>
      obtain ⟨m, hmn, hm60, rfl, rfl, rfl, rfl⟩ := hcut
      go_wp2_with fail
      go_loopw [48] (fun i wr => ∃ (k : Nat) (es : List Ent), k ≤ m ∧ i = .int .i64 k ∧ Hid (Both w gd r es wr)) (fun i _ => m - (intOf i).toNat)
      case atStart => exact ⟨0, [], Nat.zero_le _, rfl, BV⟩
      case round =>
        obtain ⟨k, es, hk, rfl, BK⟩ := hrel
        by_cases h1 : k < m
        · obtain ⟨ad, s, rfl, hadb, hsk, hx, hd0, hd1, hd2⟩ := (HS.out.below BK.out.below).at_ (k := k) (by omega)
          have hd1' : wr.cell? ⟨(ad.add (k * 3)).block, (ad.add (k * 3)).off + 1, none⟩ = some (.int .u8 (s.b.toNat : Int)) := by
            have e : (⟨(ad.add (k * 3)).block, (ad.add (k * 3)).off + 1, none⟩ : Addr) = ad.add (k * 3 + 1) := by rw [← add_of_add]; rfl
            rw [e]; exact hd1
          have hd2' : wr.cell? ⟨(ad.add (k * 3)).block, (ad.add (k * 3)).off + 2, none⟩ = some (.int .i64 s.x) := by
            have e : (⟨(ad.add (k * 3)).block, (ad.add (k * 3)).off + 2, none⟩ : Addr) = ad.add (k * 3 + 2) := by rw [← add_of_add]; rfl
            rw [e]; exact hd2
          clear hsk hd1 hd2
          have blt := s.b.toNat_lt
          obtain ⟨b2, hb2⟩ : ∃ b2 : UInt8, y % 256 = (b2.toNat : Int) := ⟨UInt8.ofNat (y % 256).toNat, by rw [UInt8.toNat_ofNat']; omega⟩
          have HB2 := Lib.hid hb2
          clear hb2
          have ew : IntKind.i64.wrap (s.b.toNat : Int) = (s.b.toNat : Int) := by rw [IntKind.wrap_i64]; omega
          -- the step's own block
          obtain ⟨V1, hV1⟩ : ∃ V1, wr.alloc (.cells #[.bool s.d, .int .u8 (s.b.toNat : Int), .int .i64 s.x] 35) = V1 := ⟨_, rfl⟩
          have hst : Blk V1 wr.heap.size #[.bool s.d, .int .u8 (s.b.toNat : Int), .int .i64 s.x] := by rw [← hV1]; exact Blk.new wr _ _
          have hA : Below wr.heap.size wr V1 := by rw [← hV1]; exact (Below.refl _ _).alloc (Nat.le_refl _) _
          have BV1 := Lib.hid (BK.out.on hA)
          have NG := Lib.hid (show gd < wr.heap.size ∧ w.heap.size + 1 < wr.heap.size from ⟨Blk.lt BK.out.doc, BK.out.sm.lt.1⟩)
          have st0 : V1.cell? ⟨wr.heap.size, 0, none⟩ = some (.bool s.d) := hst.cell 0
          have st1 : V1.cell? ⟨wr.heap.size, 1, none⟩ = some (.int .u8 (s.b.toNat : Int)) := hst.cell 1
          have st2 : V1.cell? ⟨wr.heap.size, 2, none⟩ = some (.int .i64 s.x) := hst.cell 2
          have HST := Lib.hid (fun (U : World) (q : Blk U wr.heap.size #[.bool s.d, .int .u8 (s.b.toNat : Int), .int .i64 s.x]) => (show U.cell? ⟨wr.heap.size, 1, none⟩ = some (.int .u8 (s.b.toNat : Int)) ∧ U.cell? ⟨wr.heap.size, 2, none⟩ = some (.int .i64 s.x) from ⟨q.cell 1, q.cell 2⟩))
          have HBL := Lib.hid hst
          have HV1 := Lib.hid hV1
          clear hA hst hV1
          cases hsd : s.d with
          | true =>
            rw [hsd] at hd0 st0 HV1 HBL HST
            have CR := Lib.hid (fun V => rdrop_any (room := r) BV1.out.sm.up s.b _ rfl V)
            have HLn := Lib.hid (len_ok r es)
            go_upto_region 9 with fail
            try rw [HV1.out]
            go_wp2_with fail
            (with_reducible refine (sdrop_any BV1.out.sm s.b _ rfl).mono ?_)
            rintro e w1 ⟨rfl, h1', k1⟩
            have S1 := Lib.hid h1'
            have D1 := Lib.hid (show Lst w1 gd (docL r es) from k1.blk BV1.out.doc (by have := GD.out; omega))
            have Q1 := Lib.hid (k1.blk HBL.out (by have := NG.out; omega))
            have Z1 := Lib.hid (BV1.out.below.trans (k1.below BV1.out.below.size (fun q hq => by omega)))
            obtain ⟨u1, u2⟩ := HST.out w1 Q1.out
            have HR1 := Lib.hid (Lst.all D1.out)
            clear h1' k1 st0 st1 st2
            generalize hLL : docL r es = L at HR1 HLn CR
            go_wp2_with (refine wpList_load_mid rfl 30 (.tmp 9) rfl gd 0 rfl L _ HR1.out Try.underlying30 rfl HLn.out ?_)
            subst hLL
            (with_reducible refine (CR.out _).mono ?_)
            rintro e w2 ⟨rfl, h2⟩
            have S2 := Lib.hid (S1.out.below h2)
            have D2 := Lib.hid (show Lst w2 gd (docL r es) from Blk.below D1.out h2 (Blk.lt D1.out))
            have Q2 := Lib.hid (Blk.below Q1.out h2 (Blk.lt Q1.out))
            have Z2 := Lib.hid (Z1.out.trans (h2.mono Z1.out.size))
            clear h2 u1 u2 HLn CR HR1
            have B3 := Lib.hid (lay_ok S2.out D2.out Z2.out GD.out)
            have Q3 := Lib.hid ((Kept.setCells (· = gd) w2 gd 0 (docL r (dropE es s.b)).toArray.toList rfl).blk Q2.out (by have := NG.out; omega))
            have HT3 := Lib.hid (Lst.there D2.out (o := 0) (n := (docL r (dropE es s.b)).toArray.size) (by rw [docA_size, docL_length]; exact Nat.le_refl _))
            have HSz := Lib.hid (size_ok r (dropE es s.b))
            have HLn := Lib.hid (len_ok r (dropE es s.b))
            have HOn := Lib.hid (all_oneCell_toArray (docL_one (room := r) (es := dropE es s.b)))
            obtain ⟨w3, hw3⟩ : ∃ w3, w2.setCells gd 0 (docL r (dropE es s.b)).toArray.toList = w3 := ⟨_, rfl⟩
            rw [hw3] at B3 Q3
            have HW3 := Lib.hid hw3
            clear hw3
            generalize hes : dropE es s.b = es' at B3 HSz HLn HOn HT3 HW3
            clear S1 D1 Q1 Z1 S2 D2 Q2 Z2
            obtain ⟨u1, u2⟩ := HST.out w3 Q3.out
            have CA := Lib.hid (fun (U : World) (q : Both w gd r es' U) => as_any q.sm s.b _ rfl y HY.out)
            have CA2 := Lib.hid (fun (U : World) (q : Both w gd r es' U) => as_any q.sm b2 _ HB2.out (s.b.toNat : Int) (by omega))
            have HR3 := Lib.hid (Lst.all B3.out.doc)
            generalize hLL : docL r es' = L at HSz HLn HOn HT3 HW3 CA CA2 HR3
            go_wp2_with (first
              | (refine wpList_store_mid rfl 30 (.tmp 9) (.tmp 63) rfl gd 0 L.toArray rfl rfl HT3.out HSz.out HOn.out ?_; rw [HW3.out])
              | (refine wpList_load_want (by rfl) 30 (.tmp 9) rfl gd 0 rfl L _ HR3.out Try.underlying30 rfl HLn.out ?_))
            (with_reducible refine (CA.out _ B3.out).mono ?_)
            rintro e w4 ⟨rfl, h4⟩
            have B4 := Lib.hid (B3.out.on h4)
            have Q4 := Lib.hid (Blk.below Q3.out h4 (Blk.lt Q3.out))
            obtain ⟨u3, u4⟩ := HST.out w4 Q4.out
            have HR4 := Lib.hid (Lst.all B4.out.doc)
            rw [hLL] at HR4
            clear h4 u1 u2 HR3 HT3 HW3
            go_wp2_with (refine wpList_load_want (by rfl) 30 (.tmp 9) rfl gd 0 rfl L _ HR4.out Try.underlying30 rfl HLn.out ?_)
            (with_reducible refine (CA2.out _ B4.out).mono ?_)
            rintro e w5 ⟨rfl, h5⟩
            have B5 := Lib.hid (B4.out.on h5)
            clear h5
            go_wp2
            exact ⟨⟨k + 1, es', by omega, by go_num, B5⟩, by simp [intOf]; omega⟩
          | false =>
            rw [hsd] at hd0 st0 HV1 HBL HST
            have CR := Lib.hid (fun V => rset_any (room := r) BV1.out.sm.up s.b s.x _ rfl V)
            have HLn := Lib.hid (len_ok r es)
            go_upto_region 9 with fail
            try rw [HV1.out]
            go_wp2_with fail
            (with_reducible refine (sset_any BV1.out.sm s.b s.x _ rfl).mono ?_)
            rintro e w1 ⟨rfl, h1', k1⟩
            have S1 := Lib.hid h1'
            have D1 := Lib.hid (show Lst w1 gd (docL r es) from k1.blk BV1.out.doc (by have := GD.out; omega))
            have Q1 := Lib.hid (k1.blk HBL.out (by have := NG.out; omega))
            have Z1 := Lib.hid (BV1.out.below.trans (k1.below BV1.out.below.size (fun q hq => by omega)))
            obtain ⟨u1, u2⟩ := HST.out w1 Q1.out
            have HR1 := Lib.hid (Lst.all D1.out)
            clear h1' k1 st0 st1 st2
            generalize hLL : docL r es = L at HR1 HLn CR
            go_wp2_with (refine wpList_load_mid rfl 30 (.tmp 9) rfl gd 0 rfl L _ HR1.out Try.underlying30 rfl HLn.out ?_)
            subst hLL
            (with_reducible refine (CR.out _).mono ?_)
            rintro e w2 ⟨rfl, h2⟩
            have S2 := Lib.hid (S1.out.below h2)
            have D2 := Lib.hid (show Lst w2 gd (docL r es) from Blk.below D1.out h2 (Blk.lt D1.out))
            have Q2 := Lib.hid (Blk.below Q1.out h2 (Blk.lt Q1.out))
            have Z2 := Lib.hid (Z1.out.trans (h2.mono Z1.out.size))
            clear h2 u1 u2 HLn CR HR1
            have B3 := Lib.hid (lay_ok S2.out D2.out Z2.out GD.out)
            have Q3 := Lib.hid ((Kept.setCells (· = gd) w2 gd 0 (docL r (setR r es s.b s.x)).toArray.toList rfl).blk Q2.out (by have := NG.out; omega))
            have HT3 := Lib.hid (Lst.there D2.out (o := 0) (n := (docL r (setR r es s.b s.x)).toArray.size) (by rw [docA_size, docL_length]; exact Nat.le_refl _))
            have HSz := Lib.hid (size_ok r (setR r es s.b s.x))
            have HLn := Lib.hid (len_ok r (setR r es s.b s.x))
            have HOn := Lib.hid (all_oneCell_toArray (docL_one (room := r) (es := setR r es s.b s.x)))
            obtain ⟨w3, hw3⟩ : ∃ w3, w2.setCells gd 0 (docL r (setR r es s.b s.x)).toArray.toList = w3 := ⟨_, rfl⟩
            rw [hw3] at B3 Q3
            have HW3 := Lib.hid hw3
            clear hw3
            generalize hes : setR r es s.b s.x = es' at B3 HSz HLn HOn HT3 HW3
            clear S1 D1 Q1 Z1 S2 D2 Q2 Z2
            obtain ⟨u1, u2⟩ := HST.out w3 Q3.out
            have CA := Lib.hid (fun (U : World) (q : Both w gd r es' U) => as_any q.sm s.b _ rfl y HY.out)
            have CA2 := Lib.hid (fun (U : World) (q : Both w gd r es' U) => as_any q.sm b2 _ HB2.out (s.b.toNat : Int) (by omega))
            have HR3 := Lib.hid (Lst.all B3.out.doc)
            generalize hLL : docL r es' = L at HSz HLn HOn HT3 HW3 CA CA2 HR3
            go_wp2_with (first
              | (refine wpList_store_mid rfl 30 (.tmp 9) (.tmp 78) rfl gd 0 L.toArray rfl rfl HT3.out HSz.out HOn.out ?_; rw [HW3.out])
              | (refine wpList_load_want (by rfl) 30 (.tmp 9) rfl gd 0 rfl L _ HR3.out Try.underlying30 rfl HLn.out ?_))
            (with_reducible refine (CA.out _ B3.out).mono ?_)
            rintro e w4 ⟨rfl, h4⟩
            have B4 := Lib.hid (B3.out.on h4)
            have Q4 := Lib.hid (Blk.below Q3.out h4 (Blk.lt Q3.out))
            obtain ⟨u3, u4⟩ := HST.out w4 Q4.out
            have HR4 := Lib.hid (Lst.all B4.out.doc)
            rw [hLL] at HR4
            clear h4 u1 u2 HR3 HT3 HW3
            go_wp2_with (refine wpList_load_want (by rfl) 30 (.tmp 9) rfl gd 0 rfl L _ HR4.out Try.underlying30 rfl HLn.out ?_)
            (with_reducible refine (CA2.out _ B4.out).mono ?_)
            rintro e w5 ⟨rfl, h5⟩
            have B5 := Lib.hid (B4.out.on h5)
            clear h5
            go_wp2
            exact ⟨⟨k + 1, es', by omega, by go_num, B5⟩, by simp [intOf]; omega⟩
        · obtain rfl : k = m := by omega
          go_wp2_with fail
          (with_reducible refine (salive_any _).mono ?_)
          rintro e w3 ⟨rfl, h3⟩
          have B3 := Lib.hid (BK.out.below.trans (h3.mono BK.out.below.size))
          clear h3
          go_wp2
          go_ret
          exact ⟨rfl, B3.out⟩

set_option maxRecDepth 100000 in
theorem lifted (os : Os) (started : os.Started) (H : Type) (enc : TypeId × Value → H) :
    ReturnsInHanded {} Try.checked os 3 .any (Rows.smallPlaysSpec.pre6 enc Try.prog Try.f3 Rows.smallPlaysRow.domain false) (Rows.smallPlaysSpec.post enc Try.prog Try.f3 false true false false) := by
  refine returnsInHanded_of_change (C := Try.checked) own started (by kernel_rfl) Try.func3
    (ChangeSpec.witness6 (enc := enc) (C := Try.checked) false ⟨#[], #[.int .i64 0, .slice none 0 0, .int .i64 0], []⟩ 8 (by kernel_rfl) (by kernel_rfl) (by kernel_rfl) (by kernel_rfl)) ?_
  intro W base args ds gs before hval0 hW hcnd _
  have hval : ∀ (j : Nat) t v, Try.f3.params[j]? = some t → args[j]? = some v → Value.okWide Try.prog W .any base t v := hval0
  have hW' := hW
  obtain ⟨p, q, hA0, hV, rfl, hfz, hnd⟩ := hW
  have hA : DataW.TrodAll enc Try.prog W 0 (fun _ => true) true Try.f3.params.toList args.toList ds p := hA0
  rw [Try.params3] at hA hval
  obtain ⟨v0, vs0, d0, ds0, p0, q0, hargs, rfl, rfl, h0, r0⟩ := trodAll_cons hA
  obtain ⟨v1, vs1, d1, ds1, p1, q1, rfl, rfl, rfl, h1, r1⟩ := trodAll_cons r0
  obtain ⟨v2, vs2, d2, ds2, p2, q2, rfl, rfl, rfl, h2, r2⟩ := trodAll_cons r1
  obtain ⟨rfl, rfl, rfl⟩ := trodAll_nil r2
  obtain rfl : args = #[v0, v1, v2] := by cases args; simp_all
  obtain ⟨rfl, rfl⟩ := trodVars_none hV
  have k0 := h0
  have lt0 : ∀ x ∈ p0, x.block < W.heap.size := by obtain ⟨m, hm⟩ := k0; exact DataW.trod_lt m _ _ _ hm
  have k1 := h1
  have lt1 : ∀ x ∈ p1, x.block < W.heap.size := by obtain ⟨m, hm⟩ := k1; exact DataW.trod_lt m _ _ _ hm
  have k2 := h2
  have lt2 : ∀ x ∈ p2, x.block < W.heap.size := by obtain ⟨m, hm⟩ := k2; exact DataW.trod_lt m _ _ _ hm
  obtain ⟨x0, rfl, _, _, wx0⟩ := open_int Try.underlying3 (hval 0 3 v0 rfl rfl) h0
  obtain ⟨A1, n1, c1, l1, rfl, b1, nc1⟩ := open_sts (hval 1 22 v1 rfl rfl) h1
  obtain ⟨x2, rfl, _, _, wx2⟩ := open_int Try.underlying3 (hval 2 3 v2 rfl rfl) h2
  clear hA0 hval0
  refine (walk x0 A1 n1 c1 l1 x2 W wx0 b1 nc1 wx2).mono fun e W' ⟨he, bel⟩ => ?_
  subst he
  exact ⟨_, rfl, _, _, _, [], _, [], hW', trodAll_mk1 (shut_bool Try.underlying4 _), (trodAll_cons_mk (Below.trod laidOut (by kernel_rfl) (of_decide_eq_true (by kernel_rfl)) k0 bel lt0) (trodAll_cons_mk (Below.trod laidOut (by kernel_rfl) (of_decide_eq_true (by kernel_rfl)) k1 bel lt1) (trodAll_cons_mk (Below.trod laidOut (by kernel_rfl) (of_decide_eq_true (by kernel_rfl)) k2 bel lt2) trodAll_mk0))), rfl, bel.frame _, fun h => by cases h⟩

set_option maxRecDepth 100000 in
theorem proved : Rows.SmallPlaysSaid :=
  OpenClaim.holds_of_wide 3 Try.f3 rfl rfl rfl rfl rfl rfl rfl ⟨rfl, rfl, rfl, rfl, rfl⟩ rfl rfl rfl rfl rfl (by kernel_rfl) Try.func3 (by kernel_rfl)
    (of_decide_eq_true (by kernel_rfl)) (by unfold Func.isWrapper; first | (rw [if_pos (by decide +kernel)]; kernel_rfl) | (rw [if_neg (by decide +kernel)]; exact ⟨rfl, rfl⟩))
    (fun os started H enc _ => lifted os started H enc)
end Go.Proofs.Ytcaacpjkpjhehaa.smallPlays
