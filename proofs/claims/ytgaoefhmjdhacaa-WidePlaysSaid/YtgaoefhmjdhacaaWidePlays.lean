/-
  Proved here: a board of any room answers every call, in every order, as the document's does, and holds what this does; it has no more places than it held things at most; nothing that came in is turned. No condition.
-/
import Derived.Test.YtgaoefhmjdhacaaRow
import Derived.Test.YtgaoefhmjdhacaaBdDoc
import Derived.Test.YtgaoefhmjdhacaaBdAs
import Derived.Test.YtgaoefhmjdhacaaBdAlive
import Derived.Deep.CutBlock
import Derived.Deep.DeepCutAuto
namespace Go.Proofs.Ytgaoefhmjdhacaa.widePlays
open Go.ChangeShapes Go.WideShapes Go.ChangeAt Go.RowKit

/-- A great load whose guard is met. -/
theorem wpList_load_want {P : Program} {ops : Array Oper} {rest : List Oper} {op : Oper} {a : Act} {w : World} {Q : Exit → Act → World → Prop} (hw : Region.wanted op (yielded ops a.tmps) = true) (ty : TypeId) (x : Operand) (ho : op.op = .load ty x)
    (b o : Nat) (hx : a.eval x = .pointer (some ⟨b, o, none⟩)) (cs : List Value) (d : TypeDesc) (hc : w.rangeAt b o cs)
    (hu : P.underlying ty = some d) (hd : d.isRow = true) (hi : (P.info? ty).map (·.size) = some cs.length)
    (h : wpList P ops Q rest (a.put op.dst (.agg cs.toArray)) w) : wpList P ops Q (op :: rest) a w :=
  wpList_step fun _ hK => by rw [if_pos hw]; exact wp_load_mid ty x ho b o hx cs d hc hu hd hi (hK _ _ h)

/-- A board in blocks from B on, none of them in N; it has at most this many places. -/
def OwnM (B : Nat) (N : Nat → Prop) (w : World) (g r : Nat) (es : List Ent) (most : Nat) : Prop := ∃ v u, Bd w g v r es u ∧ (∀ i, v.ownBlock = some i → B ≤ i ∧ ¬ N i) ∧ u ≤ most
section
variable {w w' : World} {g r B most : Nat} {es es' : List Ent} {N N' : Nat → Prop}
theorem OwnM.kept (h : OwnM B N w g r es most) {D : Nat → Prop} (hk : Kept D w w') (hg : ¬ D g) (hD : ∀ i, D i → i < B ∨ N i) : OwnM B N w' g r es most := by
  obtain ⟨v, u, h1, h2, h3⟩ := h
  refine ⟨v, u, h1.kept hk (fun i hi => ?_), h2, h3⟩
  rcases hi with rfl | hi
  · exact hg
  · intro q
    have := h2 i hi
    rcases hD i q with q | q
    · omega
    · exact this.2 q
theorem OwnM.below (h : OwnM B N w g r es most) (hk : Below w.heap.size w w') : OwnM B N w' g r es most := h.kept (D := fun _ => False) (Kept.of_below hk) (fun q => q) (fun _ q => q.elim)
theorem OwnM.still (h : OwnM B N w g r es most) (hs : Still w w') : OwnM B N w' g r es most := by
  obtain ⟨v, u, h1, h2⟩ := h; exact ⟨v, u, h1.still hs, h2⟩
/-- One block more that is none of the board's, since it is new. -/
theorem OwnM.more (h : OwnM B N w g r es most) {k : Nat} (hk : w.heap.size ≤ k) : OwnM B (fun i => N i ∨ i = k) w g r es most := by
  obtain ⟨v, u, h1, h2, h3⟩ := h
  refine ⟨v, u, h1, fun i hi => ⟨(h2 i hi).1, fun q => ?_⟩, h3⟩
  rcases q with q | q
  · exact (h2 i hi).2 q
  · have := h1.lt.2 i hi; omega
theorem OwnM.fewer (h : OwnM B N w g r es most) (hN : ∀ i, N' i → N i) : OwnM B N' w g r es most := by
  obtain ⟨v, u, h1, h2, h3⟩ := h; exact ⟨v, u, h1, fun i hi => ⟨(h2 i hi).1, fun q => (h2 i hi).2 (hN i q)⟩, h3⟩
set_option maxRecDepth 100000 in
/-- What is done with the board: what is below B, and what is in N, stays. -/
theorem OwnM.call (h : OwnM B N w g r es most) (hB : B ≤ w.heap.size) (hN : ∀ i, N i → i < w.heap.size) {f : FuncId} {args : Array Value} {n : Int}
    (hc : ∀ v u, Bd w g v r es u → Calls Try.prog f args w fun e w' => e = .returned (.int .i64 n) ∧ BdPost w w' g v r es' u) :
    Calls Try.prog f args w fun e w' => e = .returned (.int .i64 n) ∧ OwnM B N w' g r es' (max most es'.length) ∧ Kept (fun i => i = g ∨ B ≤ i ∧ ¬ N i) w w' := by
  obtain ⟨v, u, h1, h2, h3⟩ := h
  refine (hc v u h1).mono ?_
  rintro e w' ⟨rfl, v', u', k1, k2, k3, k4⟩
  refine ⟨rfl, ⟨v', u', k1, fun i hi => ?_, by omega⟩, k2.mono (fun i q => ?_)⟩
  · rcases k3 i hi with q | q
    · exact h2 i q
    · exact ⟨by omega, fun q' => by have := hN i q'; omega⟩
  · rcases q with q | q
    · exact .inl q
    · exact .inr (h2 i q)
end

/-- The board and the document's row hold es, each in blocks of its own. -/
structure Pst (w0 : World) (gd g r : Nat) (N : Nat → Prop) (most : Nat) (es : List Ent) (w : World) : Prop where
  own_ : OwnM w0.heap.size N w g r es most
  doc : Lst w gd (docL r es)
  below : Below w0.heap.size w0 w
section
variable {w0 w w' : World} {gd g r most : Nat} {N : Nat → Prop} {es es' : List Ent}
theorem Pst.on (h : Pst w0 gd g r N most es w) (hb : Below w.heap.size w w') : Pst w0 gd g r N most es w' :=
  ⟨h.own_.below hb, Blk.below h.doc hb (Blk.lt h.doc), h.below.trans (hb.mono h.below.size)⟩
theorem Pst.up (h : Pst w0 gd g r N most es w) : Up es := by obtain ⟨v, u, h1, _⟩ := h.own_; exact h1.up
end
set_option maxRecDepth 100000 in
theorem len_ok (r : Nat) (es : List Ent) : (Try.prog.info? 30).map (·.size) = some (docL r es).length := by rw [docL_length]; exact doc_size
set_option maxRecDepth 100000 in
theorem size_ok (r : Nat) (es : List Ent) : (Try.prog.info? 30).map (·.size) = some (docL r es).toArray.size := by rw [docA_size]; exact doc_size
/-- The document's row is laid over. -/
theorem lay_ok {w0 w : World} {gd g r most : Nat} {N : Nat → Prop} {es es' : List Ent} (hs : OwnM w0.heap.size N w g r es' most) (hd : Lst w gd (docL r es)) (hb : Below w0.heap.size w0 w) (hg : g ≠ gd) (hN : N gd) (hB : w0.heap.size ≤ gd) :
    Pst w0 gd g r N most es' (w.setCells gd 0 (docL r es').toArray.toList) := by
  have k := Kept.setCells (· = gd) w gd 0 (docL r es').toArray.toList rfl
  exact ⟨hs.kept k hg (fun i q => .inr (by rw [q]; exact hN)), doc_over hd docL_length, hb.trans (k.below hb.size (fun q hq => by omega))⟩

set_option maxRecDepth 100000 in
set_option maxHeartbeats 4000000 in
theorem walk (x : Int) (A : Option Addr) (n c : Nat) (ss : List Stp) (y : Int) (w : World) (wx : (Lit.int .i64 x).wf = true) (hs : Sts w w.heap.size A n ss) (nc : n ≤ c) (wy : (Lit.int .i64 y).wf = true) :
    Calls Try.prog 3 #[.int .i64 x, .slice A n c, .int .i64 y] w fun e w' => e = .returned (.bool true) ∧ Below w.heap.size w w' := by
  have hmx : n ≤ 9223372036854775807 := by have := hs.2.1; unfold maxLen at this; omega
  have hy : -9223372036854775808 ≤ y ∧ y ≤ 9223372036854775807 := by simpa [Lit.wf, IntKind.min, IntKind.max, IntKind.signed, IntKind.bits] using wy
  have HY := Lib.hid hy
  clear wy hy
  by_cases hr : x ≠ 48 ∧ x ≠ 256
  · have C := Lib.hid (wnew_no w x hr.1 hr.2)
    have D := Lib.hid (fun V => rwnew_any V x 0 1 (.inl ⟨hr, rfl, rfl⟩))
    have HSz := Lib.hid (size_ok 0 [])
    have HOn := Lib.hid (all_oneCell_toArray (docL_one (room := 0) (es := [])))
    have HT := Lib.hid (fun (V : World) => Lst.there (show Lst (V.alloc (.cells zeroL.toArray 30)) V.heap.size zeroL from Blk.new V _ _) (o := 0) (n := (docL 0 []).toArray.size) (by rw [docA_size, zeroL_length]; exact Nat.le_refl _))
    clear hs hr
    generalize docL 0 [] = L at D HSz HOn HT
    go_enter Try.func3, Try.ntmps3
    go_wp2_with fail
    (with_reducible refine C.out.mono ?_)
    rintro e w' ⟨rfl, rfl⟩
    go_wp2_with fail
    (with_reducible refine (D.out _).mono ?_)
    rintro e w1 ⟨rfl, h1⟩
    have B1 := Lib.hid (show Below w'.heap.size w' ((w1.alloc (.cells zeroL.toArray 30)).setCells w1.heap.size 0 L.toArray.toList) from
      h1.trans (((Kept.of_below ((Below.refl _ _).alloc (Nat.le_refl _) _)).trans (Kept.setCells (· = w1.heap.size) _ _ _ _ rfl)).below h1.size (fun q hq => by have := h1.size; omega)))
    obtain ⟨V, hV⟩ : ∃ V, (w1.alloc (.cells zeroL.toArray 30)).setCells w1.heap.size 0 L.toArray.toList = V := ⟨_, rfl⟩
    rw [hV] at B1
    have HV := Lib.hid hV
    clear h1 hV
    go_wp2_with (first
      | (refine wpList_alloc_z rfl 30 rfl zeroL.toArray doc_zero ?_)
      | (refine wpList_store_mid rfl 30 (.tmp 9) (.tmp 28) rfl w1.heap.size 0 L.toArray rfl rfl (HT.out w1) HSz.out HOn.out ?_; rw [HV.out]))
    (with_reducible refine (walive_any _).mono ?_)
    rintro e w2 ⟨rfl, h2⟩
    have B2 := Lib.hid (B1.out.trans (h2.mono B1.out.size))
    clear h2
    go_wp2
    go_ret
    exact ⟨rfl, B2.out⟩
  · obtain ⟨r, rfl, hr2⟩ : ∃ r : Nat, x = (r : Int) ∧ (r = 48 ∨ r = 256) := ⟨x.toNat, by omega, by omega⟩
    have HR2 := Lib.hid hr2
    have HR0 := Lib.hid (show r ≠ 0 by omega)
    have C := Lib.hid (wnew_yes w r hr2)
    have D := Lib.hid (fun V => rwnew_any V (r : Int) r 0 (.inr ⟨hr2, rfl, rfl⟩))
    have HSz := Lib.hid (size_ok r [])
    have HOn := Lib.hid (all_oneCell_toArray (docL_one (room := r) (es := [])))
    have HT := Lib.hid (fun (V : World) => Lst.there (show Lst (V.alloc (.cells zeroL.toArray 30)) V.heap.size zeroL from Blk.new V _ _) (o := 0) (n := (docL r []).toArray.size) (by rw [docA_size, zeroL_length]; exact Nat.le_refl _))
    have HS := Lib.hid hs
    clear hs hr wx hr2
    go_enter Try.func3, Try.ntmps3
    go_wp2_with fail
    (with_reducible refine C.out.mono ?_)
    rintro e W1 ⟨rfl, h1, b1⟩
    have S1 := Lib.hid h1
    have B1 := Lib.hid b1
    clear h1 b1 C
    go_wp2_with fail
    (with_reducible refine (D.out _).mono ?_)
    rintro e W2 ⟨rfl, h2⟩
    have S2 := Lib.hid (S1.out.below h2)
    have Z2 := Lib.hid (B1.out.trans (h2.mono B1.out.size))
    obtain ⟨gd, hgd⟩ : ∃ gd, W2.heap.size = gd := ⟨_, rfl⟩
    have GD := Lib.hid (show w.heap.size < gd by have := S2.out.lt.1; omega)
    obtain ⟨V, hV⟩ : ∃ V, (W2.alloc (.cells zeroL.toArray 30)).setCells W2.heap.size 0 (docL r []).toArray.toList = V := ⟨_, rfl⟩
    have BV := Lib.hid (show Pst w gd w.heap.size r (· = gd) 0 [] V from by
      have hz : Lst (W2.alloc (.cells zeroL.toArray 30)) W2.heap.size zeroL := Blk.new W2 _ _
      have k : Kept (· = W2.heap.size) W2 V := by rw [← hV]; exact (Kept.of_below ((Below.refl _ _).alloc (Nat.le_refl _) _)).trans (Kept.setCells (· = W2.heap.size) _ _ _ _ rfl)
      refine ⟨⟨_, _, S2.out.kept k (fun i hi => ?_), fun i hi => by simp [Value.ownBlock] at hi, Nat.le_refl _⟩, ?_, Z2.out.trans (k.below Z2.out.size (fun q hq => by have := GD.out; omega))⟩
      · rcases hi with q | q
        · have := GD.out; omega
        · simp [Value.ownBlock] at q
      · rw [← hgd, ← hV]
        exact doc_over hz zeroL_length)
    have HV := Lib.hid hV
    clear h2 hV S1 B1 D
    generalize docL r [] = L at HSz HOn HT HV ⊢
    go_upto_region 6 with (first
      | (refine wpList_alloc_z rfl 30 rfl zeroL.toArray doc_zero ?_)
      | (refine wpList_store_mid rfl 30 (.tmp 9) (.tmp 28) rfl W2.heap.size 0 L.toArray rfl rfl (HT.out W2) HSz.out HOn.out ?_; rw [HV.out]))
    try rw [hgd]
    clear HT HSz HOn HV hgd S2 Z2
    go_cut [51, 52, 53] (fun s51 s52 s53 wc => ∃ m : Nat, m ≤ n ∧ m ≤ 30 ∧ s51 = .slice A m c ∧ s52 = .int .i64 m ∧ s53 = .int .i64 0 ∧ wc = V)
    case first =>
      by_cases h60 : n ≤ 30
      all_goals
        go_wp2_with fail
        go_meet
      · exact ⟨n, Nat.le_refl _, h60, rfl, rfl, rfl, rfl⟩
      · exact ⟨30, by omega, Nat.le_refl _, rfl, rfl, rfl, rfl⟩
    case rest =>
      obtain ⟨m, hmn, hm60, rfl, rfl, rfl, rfl⟩ := hcut
      go_wp2_with fail
      go_loopw [11, 53] (fun mo i wr => ∃ (k most : Nat) (es : List Ent), k ≤ m ∧ i = .int .i64 k ∧ mo = .int .i64 most ∧ most ≤ 256 ∧ Hid (Pst w gd w.heap.size r (· = gd) most es wr)) (fun _ i _ => m - (intOf i).toNat)
      case atStart => exact ⟨0, 0, [], Nat.zero_le _, rfl, rfl, Nat.zero_le _, BV⟩
      case round =>
        obtain ⟨k, most, es, hk, rfl, rfl, hmo, BK⟩ := hrel
        by_cases h1 : k < m
        · obtain ⟨ad, s, rfl, hadb, hsk, hx, hd0, hd1, hd2, hd3⟩ := (HS.out.below BK.out.below).at_ (k := k) (by omega)
          have e1 : (⟨(ad.add (k * 4)).block, (ad.add (k * 4)).off + 1, none⟩ : Addr) = ad.add (k * 4 + 1) := by rw [← add_of_add]; rfl
          have e2 : (⟨(ad.add (k * 4)).block, (ad.add (k * 4)).off + 2, none⟩ : Addr) = ad.add (k * 4 + 2) := by rw [← add_of_add]; rfl
          have e3 : (⟨(ad.add (k * 4)).block, (ad.add (k * 4)).off + 3, none⟩ : Addr) = ad.add (k * 4 + 3) := by rw [← add_of_add]; rfl
          rw [← e1] at hd1
          rw [← e2] at hd2
          rw [← e3] at hd3
          clear hsk e1 e2 e3 hadb
          have HX := Lib.hid hx
          clear hx
          -- the step's own block
          obtain ⟨gs, hgs⟩ : ∃ gs, wr.heap.size = gs := ⟨_, rfl⟩
          obtain ⟨V1, hV1⟩ : ∃ V1, wr.alloc (.cells #[.bool s.d, .int .u8 (s.b.toNat : Int), .int .u8 (s.m.toNat : Int), .int .i64 s.x] 35) = V1 := ⟨_, rfl⟩
          have hA : Below wr.heap.size wr V1 := by rw [← hV1]; exact (Below.refl _ _).alloc (Nat.le_refl _) _
          have hst : Blk V1 gs #[.bool s.d, .int .u8 (s.b.toNat : Int), .int .u8 (s.m.toNat : Int), .int .i64 s.x] := by rw [← hV1, ← hgs]; exact Blk.new wr _ _
          have NG := Lib.hid (show gd < gs ∧ w.heap.size < gs by have := Blk.lt BK.out.doc; have := GD.out; omega)
          have S1 := Lib.hid (show Pst w gd w.heap.size r (fun i => i = gd ∨ i = gs) most es V1 from ⟨(BK.out.own_.more (by omega)).below hA, Blk.below BK.out.doc hA (Blk.lt BK.out.doc), BK.out.below.trans (hA.mono BK.out.below.size)⟩)
          have st2 : V1.cell? ⟨gs, 2, none⟩ = some (.int .u8 (s.m.toNat : Int)) := hst.cell 2
          have mlt := s.m.toNat_lt
          have HBL := Lib.hid hst
          have HV1 := Lib.hid hV1
          clear hst hV1 hA
          go_upto_region 9 with fail
          try rw [HV1.out]
          try rw [hgs]
          clear HV1 hgs
          obtain ⟨M, hM⟩ : ∃ M : Nat, ((s.m.toNat : Int) % 70) = (M : Int) := ⟨s.m.toNat % 70, by omega⟩
          have hM69 : M ≤ 69 := by omega
          go_wp2_with fail
          rw [hM]
          clear hM st2 hd0 hd1 hd2 hd3
          go_loopw [11, 62] (fun mo i wr2 => ∃ (j most : Nat) (es2 : List Ent), j ≤ M + 1 ∧ i = .int .i64 j ∧ mo = .int .i64 most ∧ most ≤ 256 ∧ Hid (Pst w gd w.heap.size r (fun i => i = gd ∨ i = gs) most es2 wr2) ∧ Hid (Blk wr2 gs #[.bool s.d, .int .u8 (s.b.toNat : Int), .int .u8 (s.m.toNat : Int), .int .i64 s.x])) (fun _ i _ => M + 1 - (intOf i).toNat)
          case atStart => exact ⟨0, most, es, Nat.zero_le _, rfl, rfl, hmo, S1, HBL⟩
          case round =>
            obtain ⟨j, mo2, es2, hj, rfl, rfl, hmo2, S2, Q2⟩ := hrel
            by_cases h2 : j < M + 1
            · have st1 : wr.cell? ⟨gs, 1, none⟩ = some (.int .u8 (s.b.toNat : Int)) := Q2.out.cell 1
              have blt := s.b.toNat_lt
              obtain ⟨bb, hbb⟩ : ∃ bb : UInt8, ((s.b.toNat : Int) + (j : Int)) % 256 = (bb.toNat : Int) := ⟨UInt8.ofNat ((s.b.toNat + j) % 256), by rw [UInt8.toNat_ofNat']; omega⟩
              go_upto_region 14 with fail
              rw [hbb]
              clear hbb
              have blt2 : bb.toNat < 256 := bb.toNat_lt
              have hbi : (bb.toNat : Int) < 256 := by omega
              have NB := Lib.hid (fun i (q : i = gd ∨ i = gs) => show i < wr.heap.size by
                rcases q with q | q
                · rw [q]; exact Blk.lt S2.out.doc
                · rw [q]; exact Q2.out.lt)
              by_cases hsd : s.d = true
              · have HSD := Lib.hid hsd
                have st0 : wr.cell? ⟨gs, 0, none⟩ = some (.bool true) := by rw [← hsd]; exact Q2.out.cell 0
                clear hsd
                have CB := Lib.hid (S2.out.own_.call S2.out.below.size NB.out (fun v u hb => wdrop_any hb HR0.out bb _ rfl))
                have CR := Lib.hid (fun V => rdrop_any (room := r) S2.out.up bb _ rfl V)
                have HLn := Lib.hid (len_ok r es2)
                go_wp2_with fail
                (with_reducible refine CB.out.mono ?_)
                rintro e w1 ⟨rfl, o1, k1⟩
                have O1 := Lib.hid o1
                have D1 := Lib.hid (show Lst w1 gd (docL r es2) from k1.blk S2.out.doc (by rintro (q | ⟨_, q⟩); (have := GD.out; omega); exact q (Or.inl rfl)))
                have Q1 := Lib.hid (k1.blk Q2.out (by rintro (q | ⟨_, q⟩); (have := NG.out; omega); exact q (Or.inr rfl)))
                have Z1 := Lib.hid (S2.out.below.trans (k1.below S2.out.below.size (fun i q => by rcases q with q | q <;> omega)))
                have HR1 := Lib.hid (Lst.all D1.out)
                clear o1 k1 st0 st1 CB
                generalize hLL : docL r es2 = L at HR1 HLn CR
                go_wp2_with (refine wpList_load_mid rfl 30 (.tmp 9) rfl gd 0 rfl L _ HR1.out Try.underlying30 rfl HLn.out ?_)
                subst hLL
                (with_reducible refine (CR.out _).mono ?_)
                rintro e w2 ⟨rfl, h2⟩
                have O2 := Lib.hid (O1.out.below h2)
                have D2 := Lib.hid (show Lst w2 gd (docL r es2) from Blk.below D1.out h2 (Blk.lt D1.out))
                have Q3 := Lib.hid (Blk.below Q1.out h2 (Blk.lt Q1.out))
                have Z2 := Lib.hid (Z1.out.trans (h2.mono Z1.out.size))
                clear h2 HLn CR HR1
                have B3 := Lib.hid (lay_ok O2.out D2.out Z2.out (by have := GD.out; omega) (Or.inl rfl) (by have := GD.out; omega))
                have Q4 := Lib.hid ((Kept.setCells (· = gd) w2 gd 0 (docL r (dropE es2 bb)).toArray.toList rfl).blk Q3.out (by have := NG.out; omega))
                have HT3 := Lib.hid (Lst.there D2.out (o := 0) (n := (docL r (dropE es2 bb)).toArray.size) (by rw [docA_size, docL_length]; exact Nat.le_refl _))
                have HSz := Lib.hid (size_ok r (dropE es2 bb))
                have HOn := Lib.hid (all_oneCell_toArray (docL_one (room := r) (es := dropE es2 bb)))
                obtain ⟨w3, hw3⟩ : ∃ w3, w2.setCells gd 0 (docL r (dropE es2 bb)).toArray.toList = w3 := ⟨_, rfl⟩
                rw [hw3] at B3 Q4
                have HW3 := Lib.hid hw3
                clear hw3
                generalize hes : dropE es2 bb = es' at B3 HSz HOn HT3 HW3
                clear O1 D1 Q1 Z1 O2 D2 Q3 Z2 hes
                have CL := Lib.hid (show Calls Try.prog 13 #[.pointer (some ⟨w.heap.size, 0, none⟩)] w3 fun e w' => e = .returned (.int .i64 (es'.length : Int)) ∧ Still w3 w' from by
                  obtain ⟨v, u, hb, _⟩ := B3.out.own_
                  exact wlen_any hb)
                generalize hLL : docL r es' = L at HSz HOn HT3 HW3
                go_wp2_with (refine wpList_store_mid rfl 30 (.tmp 9) (.tmp 79) rfl gd 0 L.toArray rfl rfl HT3.out HSz.out HOn.out ?_; rw [HW3.out])
                (with_reducible refine CL.out.mono ?_)
                rintro e w4 ⟨rfl, s4⟩
                have hl256 : es'.length ≤ 256 := by obtain ⟨v, u, hb, _⟩ := B3.out.own_; have := hb.few; omega
                have B4 := Lib.hid (B3.out.on (s4.below _))
                have Q5 := Lib.hid (Blk.below Q4.out (s4.below _) (Blk.lt Q4.out))
                clear s4 HSz HOn HT3 HW3 hLL CL B3 Q4
                have CG := Lib.hid (show Calls Try.prog 14 #[.pointer (some ⟨w.heap.size, 0, none⟩), .int .u8 (bb.toNat : Int)] w4 fun e w' => e = .returned (.tuple #[.int .i64 (getE es' bb.toNat), .bool (hasE es' bb.toNat)]) ∧ Still w4 w' from by
                  obtain ⟨v, u, hb, _⟩ := B4.out.own_
                  exact wget_any hb bb)
                go_wp2_with fail
                all_goals
                  (with_reducible refine CG.out.mono ?_)
                  rintro e w5 ⟨rfl, s5⟩
                  have B5 := Lib.hid (B4.out.on (s5.below _))
                  have Q6 := Lib.hid (Blk.below Q5.out (s5.below _) (Blk.lt Q5.out))
                  obtain ⟨u, hu, CU⟩ : ∃ u : Nat, u ≤ max mo2 es'.length ∧ Hid (Calls Try.prog 15 #[.pointer (some ⟨w.heap.size, 0, none⟩)] w5 fun e w' => e = .returned (.int .i64 (u : Int)) ∧ w' = w5) := by
                    obtain ⟨v, u, hb, _, hu⟩ := B5.out.own_
                    exact ⟨u, hu, Lib.hid (wused_any hb)⟩
                  have c1 : w5.cell? ⟨gd, 1 + bb.toNat, none⟩ = some (.bool (hasE es' bb.toNat)) := by rw [Lst.at_ B5.out.doc, docL_has blt2]
                  have c2 : w5.cell? ⟨gd, 257 + bb.toNat, none⟩ = some (.int .i64 (getE es' bb.toNat)) := by rw [Lst.at_ B5.out.doc, docL_val blt2]
                  first | (have hu' : u ≤ es'.length := by omega) | (have hu' : u ≤ mo2 := by omega)
                  have HU := Lib.hid (show max mo2 es'.length ≤ 256 by omega)
                  clear s5 CG B4 Q5 hu
                  go_wp2_with fail
                  (with_reducible refine CU.out.mono ?_)
                  rintro e w' ⟨rfl, rfl⟩
                  go_wp2
                  exact ⟨⟨j + 1, max mo2 es'.length, es', by omega, by go_num, by first | rw [show max mo2 es'.length = es'.length by omega] | rw [show max mo2 es'.length = mo2 by omega], HU.out, B5, Q6⟩, by simp [intOf]; omega⟩
              · replace hsd : s.d = false := by simpa using hsd
                have HSD := Lib.hid hsd
                have st0 : wr.cell? ⟨gs, 0, none⟩ = some (.bool false) := by rw [← hsd]; exact Q2.out.cell 0
                clear hsd
                obtain ⟨xx, hxx⟩ : ∃ xx : Int, (bb.toNat : Int) + s.x.tmod 1000 = xx := ⟨_, rfl⟩
                have hxb : -1000 < s.x.tmod 1000 ∧ s.x.tmod 1000 < 1000 := ⟨Int.lt_tmod_of_pos _ (by omega), Int.tmod_lt_of_pos _ (by omega)⟩
                have st3 : wr.cell? ⟨gs, 3, none⟩ = some (.int .i64 s.x) := Q2.out.cell 3
                have CB := Lib.hid (S2.out.own_.call S2.out.below.size NB.out (fun v u hb => wset_any hb HR0.out bb xx _ rfl))
                have CR := Lib.hid (fun V => rset_any (room := r) S2.out.up bb xx _ rfl V)
                have HLn := Lib.hid (len_ok r es2)
                go_wp2_with fail
                try rw [hxx]
                (with_reducible refine CB.out.mono ?_)
                rintro e w1 ⟨rfl, o1, k1⟩
                have O1 := Lib.hid o1
                have D1 := Lib.hid (show Lst w1 gd (docL r es2) from k1.blk S2.out.doc (by rintro (q | ⟨_, q⟩); (have := GD.out; omega); exact q (Or.inl rfl)))
                have Q1 := Lib.hid (k1.blk Q2.out (by rintro (q | ⟨_, q⟩); (have := NG.out; omega); exact q (Or.inr rfl)))
                have Z1 := Lib.hid (S2.out.below.trans (k1.below S2.out.below.size (fun i q => by rcases q with q | q <;> omega)))
                have HR1 := Lib.hid (Lst.all D1.out)
                have st3 : w1.cell? ⟨gs, 3, none⟩ = some (.int .i64 s.x) := Q1.out.cell 3
                clear o1 k1 st0 st1 CB
                generalize hLL : docL r es2 = L at HR1 HLn CR
                go_wp2_with (refine wpList_load_mid rfl 30 (.tmp 9) rfl gd 0 rfl L _ HR1.out Try.underlying30 rfl HLn.out ?_)
                try rw [hxx]
                subst hLL
                (with_reducible refine (CR.out _).mono ?_)
                rintro e w2 ⟨rfl, h2⟩
                have O2 := Lib.hid (O1.out.below h2)
                have D2 := Lib.hid (show Lst w2 gd (docL r es2) from Blk.below D1.out h2 (Blk.lt D1.out))
                have Q3 := Lib.hid (Blk.below Q1.out h2 (Blk.lt Q1.out))
                have Z2 := Lib.hid (Z1.out.trans (h2.mono Z1.out.size))
                clear h2 HLn CR HR1
                have B3 := Lib.hid (lay_ok O2.out D2.out Z2.out (by have := GD.out; omega) (Or.inl rfl) (by have := GD.out; omega))
                have Q4 := Lib.hid ((Kept.setCells (· = gd) w2 gd 0 (docL r (setR r es2 bb xx)).toArray.toList rfl).blk Q3.out (by have := NG.out; omega))
                have HT3 := Lib.hid (Lst.there D2.out (o := 0) (n := (docL r (setR r es2 bb xx)).toArray.size) (by rw [docA_size, docL_length]; exact Nat.le_refl _))
                have HSz := Lib.hid (size_ok r (setR r es2 bb xx))
                have HOn := Lib.hid (all_oneCell_toArray (docL_one (room := r) (es := setR r es2 bb xx)))
                obtain ⟨w3, hw3⟩ : ∃ w3, w2.setCells gd 0 (docL r (setR r es2 bb xx)).toArray.toList = w3 := ⟨_, rfl⟩
                rw [hw3] at B3 Q4
                have HW3 := Lib.hid hw3
                clear hw3
                generalize hes : setR r es2 bb xx = es' at B3 HSz HOn HT3 HW3
                clear O1 D1 Q1 Z1 O2 D2 Q3 Z2 hes
                have CL := Lib.hid (show Calls Try.prog 13 #[.pointer (some ⟨w.heap.size, 0, none⟩)] w3 fun e w' => e = .returned (.int .i64 (es'.length : Int)) ∧ Still w3 w' from by
                  obtain ⟨v, u, hb, _⟩ := B3.out.own_
                  exact wlen_any hb)
                generalize hLL : docL r es' = L at HSz HOn HT3 HW3
                go_wp2_with (refine wpList_store_mid rfl 30 (.tmp 9) (.tmp 100) rfl gd 0 L.toArray rfl rfl HT3.out HSz.out HOn.out ?_; rw [HW3.out])
                (with_reducible refine CL.out.mono ?_)
                rintro e w4 ⟨rfl, s4⟩
                have hl256 : es'.length ≤ 256 := by obtain ⟨v, u, hb, _⟩ := B3.out.own_; have := hb.few; omega
                have B4 := Lib.hid (B3.out.on (s4.below _))
                have Q5 := Lib.hid (Blk.below Q4.out (s4.below _) (Blk.lt Q4.out))
                clear s4 HSz HOn HT3 HW3 hLL CL B3 Q4
                have CG := Lib.hid (show Calls Try.prog 14 #[.pointer (some ⟨w.heap.size, 0, none⟩), .int .u8 (bb.toNat : Int)] w4 fun e w' => e = .returned (.tuple #[.int .i64 (getE es' bb.toNat), .bool (hasE es' bb.toNat)]) ∧ Still w4 w' from by
                  obtain ⟨v, u, hb, _⟩ := B4.out.own_
                  exact wget_any hb bb)
                go_wp2_with fail
                all_goals
                  (with_reducible refine CG.out.mono ?_)
                  rintro e w5 ⟨rfl, s5⟩
                  have B5 := Lib.hid (B4.out.on (s5.below _))
                  have Q6 := Lib.hid (Blk.below Q5.out (s5.below _) (Blk.lt Q5.out))
                  obtain ⟨u, hu, CU⟩ : ∃ u : Nat, u ≤ max mo2 es'.length ∧ Hid (Calls Try.prog 15 #[.pointer (some ⟨w.heap.size, 0, none⟩)] w5 fun e w' => e = .returned (.int .i64 (u : Int)) ∧ w' = w5) := by
                    obtain ⟨v, u, hb, _, hu⟩ := B5.out.own_
                    exact ⟨u, hu, Lib.hid (wused_any hb)⟩
                  have c1 : w5.cell? ⟨gd, 1 + bb.toNat, none⟩ = some (.bool (hasE es' bb.toNat)) := by rw [Lst.at_ B5.out.doc, docL_has blt2]
                  have c2 : w5.cell? ⟨gd, 257 + bb.toNat, none⟩ = some (.int .i64 (getE es' bb.toNat)) := by rw [Lst.at_ B5.out.doc, docL_val blt2]
                  first | (have hu' : u ≤ es'.length := by omega) | (have hu' : u ≤ mo2 := by omega)
                  have HU := Lib.hid (show max mo2 es'.length ≤ 256 by omega)
                  clear s5 CG B4 Q5 hu
                  go_wp2_with fail
                  (with_reducible refine CU.out.mono ?_)
                  rintro e w' ⟨rfl, rfl⟩
                  go_wp2
                  exact ⟨⟨j + 1, max mo2 es'.length, es', by omega, by go_num, by first | rw [show max mo2 es'.length = es'.length by omega] | rw [show max mo2 es'.length = mo2 by omega], HU.out, B5, Q6⟩, by simp [intOf]; omega⟩
            · obtain rfl : j = M + 1 := by omega
              have CA := Lib.hid (fun (U : World) (q : Pst w gd w.heap.size r (fun i => i = gd ∨ i = gs) mo2 es2 U) => (show Calls Try.prog 16 #[.pointer (some ⟨w.heap.size, 0, none⟩), .agg (docL r es2).toArray, .int .i64 y] U fun e w' => e = .returned (.bool true) ∧ Below U.heap.size U w' from by
                obtain ⟨v, u, hb, _⟩ := q.own_; exact was_any hb y HY.out))
              have CA2 := Lib.hid (fun (U : World) (q : Pst w gd w.heap.size r (fun i => i = gd ∨ i = gs) mo2 es2 U) => (show Calls Try.prog 16 #[.pointer (some ⟨w.heap.size, 0, none⟩), .agg (docL r es2).toArray, .int .i64 (s.b.toNat : Int)] U fun e w' => e = .returned (.bool true) ∧ Below U.heap.size U w' from by
                obtain ⟨v, u, hb, _⟩ := q.own_; exact was_any hb (s.b.toNat : Int) (by have := s.b.toNat_lt; omega)))
              have HLn := Lib.hid (len_ok r es2)
              have HR3 := Lib.hid (Lst.all S2.out.doc)
              have blt := s.b.toNat_lt
              generalize hLL : docL r es2 = L at HLn CA CA2 HR3
              go_wp2_with (refine wpList_load_mid rfl 30 (.tmp 9) rfl gd 0 rfl L _ HR3.out Try.underlying30 rfl HLn.out ?_)
              (with_reducible refine (CA.out _ S2.out).mono ?_)
              rintro e w4 ⟨rfl, h4⟩
              have B4 := Lib.hid (S2.out.on h4)
              have Q4 := Lib.hid (Blk.below Q2.out h4 (Blk.lt Q2.out))
              have st1 : w4.cell? ⟨gs, 1, none⟩ = some (.int .u8 (s.b.toNat : Int)) := Q4.out.cell 1
              have HR4 := Lib.hid (Lst.all B4.out.doc)
              rw [hLL] at HR4
              clear h4 HR3
              go_wp2_with (refine wpList_load_want (by rfl) 30 (.tmp 9) rfl gd 0 rfl L _ HR4.out Try.underlying30 rfl HLn.out ?_)
              (with_reducible refine (CA2.out _ B4.out).mono ?_)
              rintro e w5 ⟨rfl, h5⟩
              have B5 := Lib.hid (B4.out.on h5)
              have B6 := Lib.hid (show Pst w gd w.heap.size r (· = gd) mo2 es2 w5 from ⟨B5.out.own_.fewer (fun i q => Or.inl q), B5.out.doc, B5.out.below⟩)
              clear h5
              go_wp2
              exact ⟨⟨k + 1, mo2, es2, by omega, by go_num, rfl, hmo2, B6⟩, by simp [intOf]; omega⟩
        · obtain rfl : k = m := by omega
          go_wp2_with fail
          (with_reducible refine (walive_any _).mono ?_)
          rintro e w3 ⟨rfl, h3⟩
          have B3 := Lib.hid (BK.out.below.trans (h3.mono BK.out.below.size))
          clear h3
          go_wp2
          go_ret
          exact ⟨rfl, B3.out⟩

set_option maxRecDepth 100000 in
theorem lifted (os : Os) (started : os.Started) (H : Type) (enc : TypeId × Value → H) :
    ReturnsInHanded {} Try.checked os 3 .any (Rows.widePlaysSpec.pre6 enc Try.prog Try.f3 Rows.widePlaysRow.domain false) (Rows.widePlaysSpec.post enc Try.prog Try.f3 false true false false) := by
  refine returnsInHanded_of_change (C := Try.checked) own started (by kernel_rfl) Try.func3
    (ChangeSpec.witness6 (enc := enc) (C := Try.checked) false ⟨#[], #[.int .i64 0, .slice none 0 0, .int .i64 0], []⟩ 8 (by kernel_rfl) (by kernel_rfl) (by kernel_rfl) (by kernel_rfl)) ?_
  intro W base args ds gs before hval0 hW hcnd _
  have hval : ∀ (j : Nat) t v, Try.f3.params[j]? = some t → args[j]? = some v → Value.okWide Try.prog W .any base t v := hval0
  have hW' := hW
  obtain ⟨p, q, hA0, hV, rfl, hfz, hnd⟩ := hW
  have hA : DataW.TrodAll enc Try.prog W 0 (fun _ => true) true Try.f3.params.toList args.toList ds p := hA0
  rw [Try.params3] at hA hval
  obtain ⟨v0, vs0, d0, ds0, p0, q0, hargs, rfl, rfl, h0, r0⟩ := trodAll_cons hA
  obtain ⟨v1, vs1, d1, ds1, p1, q1, rfl, rfl, rfl, h1, r1⟩ := trodAll_cons r0
  obtain ⟨v2, vs2, d2, ds2, p2, q2, rfl, rfl, rfl, h2, r2⟩ := trodAll_cons r1
  obtain ⟨rfl, rfl, rfl⟩ := trodAll_nil r2
  obtain rfl : args = #[v0, v1, v2] := by cases args; simp_all
  obtain ⟨rfl, rfl⟩ := trodVars_none hV
  have k0 := h0
  have lt0 : ∀ x ∈ p0, x.block < W.heap.size := by obtain ⟨m, hm⟩ := k0; exact DataW.trod_lt m _ _ _ hm
  have k1 := h1
  have lt1 : ∀ x ∈ p1, x.block < W.heap.size := by obtain ⟨m, hm⟩ := k1; exact DataW.trod_lt m _ _ _ hm
  have k2 := h2
  have lt2 : ∀ x ∈ p2, x.block < W.heap.size := by obtain ⟨m, hm⟩ := k2; exact DataW.trod_lt m _ _ _ hm
  obtain ⟨x0, rfl, _, _, wx0⟩ := open_int Try.underlying3 (hval 0 3 v0 rfl rfl) h0
  obtain ⟨A1, n1, c1, l1, rfl, b1, nc1⟩ := open_sts (hval 1 22 v1 rfl rfl) h1
  obtain ⟨x2, rfl, _, _, wx2⟩ := open_int Try.underlying3 (hval 2 3 v2 rfl rfl) h2
  clear hA0 hval0
  refine (walk x0 A1 n1 c1 l1 x2 W wx0 b1 nc1 wx2).mono fun e W' ⟨he, bel⟩ => ?_
  subst he
  exact ⟨_, rfl, _, _, _, [], _, [], hW', trodAll_mk1 (shut_bool Try.underlying4 _), (trodAll_cons_mk (Below.trod laidOut (by kernel_rfl) (of_decide_eq_true (by kernel_rfl)) k0 bel lt0) (trodAll_cons_mk (Below.trod laidOut (by kernel_rfl) (of_decide_eq_true (by kernel_rfl)) k1 bel lt1) (trodAll_cons_mk (Below.trod laidOut (by kernel_rfl) (of_decide_eq_true (by kernel_rfl)) k2 bel lt2) trodAll_mk0))), rfl, bel.frame _, fun h => by cases h⟩

set_option maxRecDepth 100000 in
theorem proved : Rows.WidePlaysSaid :=
  OpenClaim.holds_of_wide 3 Try.f3 rfl rfl rfl rfl rfl rfl rfl ⟨rfl, rfl, rfl, rfl, rfl⟩ rfl rfl rfl rfl rfl (by kernel_rfl) Try.func3 (by kernel_rfl)
    (of_decide_eq_true (by kernel_rfl)) (by unfold Func.isWrapper; first | (rw [if_pos (by decide +kernel)]; kernel_rfl) | (rw [if_neg (by decide +kernel)]; exact ⟨rfl, rfl⟩))
    (fun os started H enc _ => lifted os started H enc)
end Go.Proofs.Ytgaoefhmjdhacaa.widePlays
