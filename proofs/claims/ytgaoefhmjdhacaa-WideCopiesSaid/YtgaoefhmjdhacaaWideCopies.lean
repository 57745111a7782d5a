/-
  Proved here: what is done with a copy does not turn a board, whatever was done with either; both hold all that they held; nothing that came in is turned. No condition.
-/
import Derived.Test.YtgaoefhmjdhacaaRow
import Derived.Test.YtgaoefhmjdhacaaBdAlive
import Derived.Deep.CutBlock
import Derived.Deep.DeepCutAuto
namespace Go.Proofs.Ytgaoefhmjdhacaa.wideCopies
open Go.ChangeShapes Go.WideShapes Go.ChangeAt Go.RowKit

/-- The yes and no of each byte. -/
def yesL (f : Nat → Bool) : List Value := (List.range 256).map (fun i => .bool (f i))
theorem yesL_length {f : Nat → Bool} : (yesL f).length = 256 := by simp [yesL]
theorem yesL_at {f : Nat → Bool} {i : Nat} (hi : i < 256) : (yesL f)[i]? = some (.bool (f i)) := by
  rw [yesL, List.getElem?_map, List.getElem?_range hi]; rfl
theorem yesL_set {f f' : Nat → Bool} {b : Nat} {x : Bool} (h : f' = fun i => if i = b then x else f i) : (yesL f).set b (.bool x) = yesL f' := by
  subst h
  exact map_set_range (by simp) (fun j _ hj => by simp [hj])
set_option maxRecDepth 100000 in
theorem yes_zero : (Try.prog.info? 27).map (·.zero) = some (some (.agg (yesL (fun _ => false)).toArray)) := by kernel_rfl

/-- A board in blocks from B on, none of them in N. -/
def Own (B : Nat) (N : Nat → Prop) (w : World) (g : Nat) (es : List Ent) : Prop := ∃ v u, Bd w g v 256 es u ∧ ∀ i, v.ownBlock = some i → B ≤ i ∧ ¬ N i
section
variable {w w' : World} {g B : Nat} {es es' : List Ent} {N N' : Nat → Prop}
theorem Own.kept (h : Own B N w g es) {D : Nat → Prop} (hk : Kept D w w') (hg : ¬ D g) (hD : ∀ i, D i → i < B ∨ N i) : Own B N w' g es := by
  obtain ⟨v, u, h1, h2⟩ := h
  refine ⟨v, u, h1.kept hk (fun i hi => ?_), h2⟩
  rcases hi with rfl | hi
  · exact hg
  · intro q
    have := h2 i hi
    rcases hD i q with q | q
    · omega
    · exact this.2 q
theorem Own.below (h : Own B N w g es) (hk : Below w.heap.size w w') : Own B N w' g es := h.kept (D := fun _ => False) (Kept.of_below hk) (fun q => q) (fun _ q => q.elim)
theorem Own.still (h : Own B N w g es) (hs : Still w w') : Own B N w' g es := by
  obtain ⟨v, u, h1, h2⟩ := h; exact ⟨v, u, h1.still hs, h2⟩
/-- One block more that is none of the board's, since it is new. -/
theorem Own.more (h : Own B N w g es) {k : Nat} (hk : w.heap.size ≤ k) : Own B (fun i => N i ∨ i = k) w g es := by
  obtain ⟨v, u, h1, h2⟩ := h
  refine ⟨v, u, h1, fun i hi => ⟨(h2 i hi).1, fun q => ?_⟩⟩
  rcases q with q | q
  · exact (h2 i hi).2 q
  · have := h1.lt.2 i hi; omega
theorem Own.fewer (h : Own B N w g es) (hN : ∀ i, N' i → N i) : Own B N' w g es := by
  obtain ⟨v, u, h1, h2⟩ := h; exact ⟨v, u, h1, fun i hi => ⟨(h2 i hi).1, fun q => (h2 i hi).2 (hN i q)⟩⟩
theorem few256 (h : Up es) : es.length ≤ 256 := by rw [← pos_all]; exact pos256 h
theorem setR_all (h : Up es) (b : UInt8) (x : Th) : setR 256 es b x = setE es b x := by
  unfold setR
  rw [if_neg]
  rintro ⟨h1, h2⟩
  have := few256 (set_up h b x)
  rw [set_length, h1] at this
  simp at this
  omega
set_option maxRecDepth 100000 in
/-- What is done with the board: what is below B, and what is in N, stays. -/
theorem Own.call (h : Own B N w g es) (hB : B ≤ w.heap.size) (hN : ∀ i, N i → i < w.heap.size) {f : FuncId} {args : Array Value} {n : Int}
    (hc : ∀ v u, Bd w g v 256 es u → Calls Try.prog f args w fun e w' => e = .returned (.int .i64 n) ∧ BdPost w w' g v 256 es' u) :
    Calls Try.prog f args w fun e w' => e = .returned (.int .i64 n) ∧ Own B N w' g es' ∧ Kept (fun i => i = g ∨ B ≤ i ∧ ¬ N i) w w' := by
  obtain ⟨v, u, h1, h2⟩ := h
  refine (hc v u h1).mono ?_
  rintro e w' ⟨rfl, v', u', k1, k2, k3, _⟩
  refine ⟨rfl, ⟨v', u', k1, fun i hi => ?_⟩, k2.mono (fun i q => ?_)⟩
  · rcases k3 i hi with q | q
    · exact h2 i q
    · exact ⟨by omega, fun q' => by have := hN i q'; omega⟩
  · rcases q with q | q
    · exact .inl q
    · exact .inr (h2 i q)
set_option maxRecDepth 100000 in
theorem Own.set_ (h : Own B N w g es) (hB : B ≤ w.heap.size) (hN : ∀ i, N i → i < w.heap.size) (b : UInt8) (x : Th) (z : Int) (hz : z = (b.toNat : Int)) :
    ∃ n, Calls Try.prog 11 #[.pointer (some ⟨g, 0, none⟩), .int .u8 z, ev x] w fun e w' => e = .returned (.int .i64 n) ∧ Own B N w' g (setE es b x) ∧ Kept (fun i => i = g ∨ B ≤ i ∧ ¬ N i) w w' := by
  have hu : Up es := by obtain ⟨v, u, h1, _⟩ := h; exact h1.up
  exact ⟨_, h.call hB hN (fun v u hb => by have := wset_any hb (by omega) b x z hz; rw [setR_all hu] at this; exact this)⟩
set_option maxRecDepth 100000 in
theorem Own.drop_ (h : Own B N w g es) (hB : B ≤ w.heap.size) (hN : ∀ i, N i → i < w.heap.size) (b : UInt8) (z : Int) (hz : z = (b.toNat : Int)) :
    ∃ n, Calls Try.prog 9 #[.pointer (some ⟨g, 0, none⟩), .int .u8 z] w fun e w' => e = .returned (.int .i64 n) ∧ Own B N w' g (dropE es b) ∧ Kept (fun i => i = g ∨ B ≤ i ∧ ¬ N i) w w' :=
  ⟨_, h.call hB hN (fun v u hb => wdrop_any hb (by omega) b z hz)⟩
end

/-- The board, and the yes and no of what it holds beside it; each thing is its byte. -/
structure St (w0 : World) (g gh : Nat) (N : Nat → Prop) (w : World) (es : List Ent) : Prop where
  own_ : Own w0.heap.size N w g es
  has : Lst w gh (yesL (hasE es))
  self : ∀ b, b < 256 → hasE es b = true → getE es b = (b : Int)
  below : Below w0.heap.size w0 w

theorem St.put {w0 w w2 : World} {g gh : Nat} {N : Nat → Prop} {es es' : List Ent} (hS : St w0 g gh N w es) (hgh : g ≠ gh) (hN : N gh) (hg : w0.heap.size ≤ g) (ho : Own w0.heap.size N w2 g es') (hk : Kept (fun i => i = g ∨ w0.heap.size ≤ i ∧ ¬ N i) w w2) (hB : w0.heap.size ≤ gh)
    (b : UInt8) (x : Bool) (hf : hasE es' = fun i => if i = b.toNat then x else hasE es i) (hs : ∀ b, b < 256 → hasE es' b = true → getE es' b = (b : Int)) : St w0 g gh N (w2.setCell ⟨gh, b.toNat, none⟩ (.bool x)) es' := by
  have kp := Kept.set_ (D := (· = gh)) w2 ⟨gh, b.toNat, none⟩ (.bool x) rfl
  refine ⟨ho.kept kp hgh (fun i e => .inr (by rw [e]; exact hN)), ?_, hs, ?_⟩
  · have := Lst.set1 (hk.blk hS.has (by rintro (q | ⟨_, q⟩); exact hgh q.symm; exact q hN)) b.toNat (.bool x)
    rw [yesL_set hf] at this
    exact this
  · exact (hS.below.trans (hk.below hS.below.size (fun i q => by rcases q with q | q <;> omega))).trans (kp.below (Nat.le_trans hS.below.size hk.size) (fun i q => by omega))
theorem St.up {w0 w : World} {g gh : Nat} {N : Nat → Prop} {es : List Ent} (h : St w0 g gh N w es) : Up es := by obtain ⟨v, u, h1, _⟩ := h.own_; exact h1.up
theorem self_set {es : List Ent} (h : Up es) (hs : ∀ b, b < 256 → hasE es b = true → getE es b = (b : Int)) (b : UInt8) : ∀ c, c < 256 → hasE (setE es b (b.toNat : Int)) c = true → getE (setE es b (b.toNat : Int)) c = (c : Int) := by
  intro c hc hh
  rw [get_set h]
  rw [has_set h] at hh
  by_cases e : c = b.toNat
  · rw [if_pos e, e]
  · rw [if_neg e] at hh ⊢; exact hs c hc hh
theorem self_drop {es : List Ent} (h : Up es) (hs : ∀ b, b < 256 → hasE es b = true → getE es b = (b : Int)) (b : UInt8) : ∀ c, c < 256 → hasE (dropE es b) c = true → getE (dropE es b) c = (c : Int) := by
  intro c hc hh
  rw [get_drop h]
  rw [has_drop h] at hh
  by_cases e : c = b.toNat
  · rw [if_pos e] at hh; cases hh
  · rw [if_neg e] at hh ⊢; exact hs c hc hh

set_option maxRecDepth 100000 in
set_option maxHeartbeats 4000000 in
theorem walk (A : Option Addr) (n c : Nat) (ss : List Stp) (A2 : Option Addr) (n2 c2 : Nat) (ss2 : List Stp) (w : World) (hs : Sts w w.heap.size A n ss) (nc : n ≤ c) (hs2 : Sts w w.heap.size A2 n2 ss2) (nc2 : n2 ≤ c2) :
    Calls Try.prog 4 #[.slice A n c, .slice A2 n2 c2] w fun e w' => e = .returned (.bool true) ∧ Below w.heap.size w w' := by
  have hmx : n ≤ 9223372036854775807 := by have := hs.2.1; unfold maxLen at this; omega
  have hmx2 : n2 ≤ 9223372036854775807 := by have := hs2.2.1; unfold maxLen at this; omega
  have C := Lib.hid (show Calls Try.prog 6 #[.int .i64 256] w fun e w' =>
    e = .returned (.tuple #[.pointer (some ⟨w.heap.size, 0, none⟩), .int .i64 0]) ∧ Bd w' w.heap.size (.slice none 0 0) 256 [] 0 ∧ Below w.heap.size w w' from wnew_yes w 256 (Or.inr rfl))
  have HS := Lib.hid hs
  have HS2 := Lib.hid hs2
  clear hs hs2
  go_enter Try.func4, Try.ntmps4
  go_wp2_with fail
  (with_reducible refine C.out.mono ?_)
  rintro e W1 ⟨rfl, h1, b1⟩
  obtain ⟨gh, hgh⟩ : ∃ gh, W1.heap.size = gh := ⟨_, rfl⟩
  obtain ⟨V, hV⟩ : ∃ V, W1.alloc (.cells (yesL (fun _ => false)).toArray 27) = V := ⟨_, rfl⟩
  have GH := Lib.hid (show w.heap.size < gh by have := h1.lt.1; omega)
  have SVV := Lib.hid (show St w w.heap.size gh (· = gh) V [] from by
    have hb : Below W1.heap.size W1 V := by rw [← hV]; exact (Below.refl _ _).alloc (Nat.le_refl _) _
    refine ⟨⟨_, _, h1.below hb, fun i hi => by simp [Value.ownBlock] at hi⟩, ?_, fun b _ q => by simp [hasE, look] at q, b1.trans (hb.mono b1.size)⟩
    rw [← hV, ← hgh]
    exact Blk.new W1 _ _)
  have HV := Lib.hid hV
  clear h1 b1 C hV
  go_upto_region 5 with (refine wpList_alloc_z rfl 27 rfl (yesL (fun _ => false)).toArray yes_zero ?_)
  try rw [HV.out]
  try rw [hgh]
  clear HV hgh
  simp only [Act.put, List.setIfInBounds_toArray, List.set_cons_zero, List.set_cons_succ]
  go_cut [30, 31, 32] (fun s30 s31 s32 wc => ∃ m : Nat, m ≤ n ∧ m ≤ 30 ∧ s30 = .slice A m c ∧ s31 = .int .i64 m ∧ s32 = .int .i64 0 ∧ wc = V)
  case first =>
    by_cases h60 : n ≤ 30
    all_goals
      go_wp2_with fail
      go_meet
    · exact ⟨n, Nat.le_refl _, h60, rfl, rfl, rfl, rfl⟩
    · exact ⟨30, by omega, Nat.le_refl _, rfl, rfl, rfl, rfl⟩
  case rest =>
    obtain ⟨m, hmn, hm60, rfl, rfl, rfl, rfl⟩ := hcut
    go_upto_block 0 with fail
    go_cut [32] (fun s32 wc => ∃ es : List Ent, Hid (St w w.heap.size gh (· = gh) wc es))
    case first =>
      go_wp2_with fail
      go_loopw [32] (fun i wr => ∃ (k : Nat) (es : List Ent), k ≤ m ∧ i = .int .i64 k ∧ Hid (St w w.heap.size gh (· = gh) wr es)) (fun i _ => m - (intOf i).toNat)
      case atStart => exact ⟨0, [], Nat.zero_le _, rfl, SVV⟩
      case round =>
        obtain ⟨k, es, hk, rfl, SK⟩ := hrel
        by_cases h1 : k < m
        · obtain ⟨ad, s, rfl, hadb, hsk, hx, hd0, hd1, hd2, hd3⟩ := (HS.out.below SK.out.below).at_ (k := k) (by omega)
          have e1 : (⟨(ad.add (k * 4)).block, (ad.add (k * 4)).off + 1, none⟩ : Addr) = ad.add (k * 4 + 1) := by rw [← add_of_add]; rfl
          have e2 : (⟨(ad.add (k * 4)).block, (ad.add (k * 4)).off + 2, none⟩ : Addr) = ad.add (k * 4 + 2) := by rw [← add_of_add]; rfl
          have e3 : (⟨(ad.add (k * 4)).block, (ad.add (k * 4)).off + 3, none⟩ : Addr) = ad.add (k * 4 + 3) := by rw [← add_of_add]; rfl
          rw [← e1] at hd1
          rw [← e2] at hd2
          rw [← e3] at hd3
          clear hsk e1 e2 e3 hadb hx
          -- the step's own block
          obtain ⟨gs, hgs⟩ : ∃ gs, wr.heap.size = gs := ⟨_, rfl⟩
          obtain ⟨V1, hV1⟩ : ∃ V1, wr.alloc (.cells #[.bool s.d, .int .u8 (s.b.toNat : Int), .int .u8 (s.m.toNat : Int), .int .i64 s.x] 35) = V1 := ⟨_, rfl⟩
          have NG := Lib.hid (show gh < gs ∧ w.heap.size < gs by have := Blk.lt SK.out.has; have := GH.out; omega)
          have hst : Blk V1 gs #[.bool s.d, .int .u8 (s.b.toNat : Int), .int .u8 (s.m.toNat : Int), .int .i64 s.x] := by rw [← hV1, ← hgs]; exact Blk.new wr _ _
          have S1 := Lib.hid (show St w w.heap.size gh (fun i => i = gh ∨ i = gs) V1 es from by
            have hA : Below wr.heap.size wr V1 := by rw [← hV1]; exact (Below.refl _ _).alloc (Nat.le_refl _) _
            exact ⟨(SK.out.own_.more (by omega)).below hA, Blk.below SK.out.has hA (Blk.lt SK.out.has), SK.out.self, SK.out.below.trans (hA.mono SK.out.below.size)⟩)
          have st2 : V1.cell? ⟨gs, 2, none⟩ = some (.int .u8 (s.m.toNat : Int)) := hst.cell 2
          have mlt := s.m.toNat_lt
          have HBL := Lib.hid hst
          have HV1 := Lib.hid hV1
          clear hst hV1
          go_upto_region 8 with fail
          try rw [HV1.out]
          try rw [hgs]
          clear HV1 hgs
          obtain ⟨M, hM⟩ : ∃ M : Nat, ((s.m.toNat : Int) % 70) = (M : Int) := ⟨s.m.toNat % 70, by omega⟩
          have hM69 : M ≤ 69 := by omega
          go_wp2_with fail
          rw [hM]
          clear hM st2 hd0 hd1 hd2 hd3
          go_loopw [40] (fun i wr2 => ∃ (j : Nat) (es2 : List Ent), j ≤ M ∧ i = .int .i64 j ∧ Hid (St w w.heap.size gh (fun i => i = gh ∨ i = gs) wr2 es2) ∧ Hid (Blk wr2 gs #[.bool s.d, .int .u8 (s.b.toNat : Int), .int .u8 (s.m.toNat : Int), .int .i64 s.x])) (fun i _ => M - (intOf i).toNat)
          case atStart => exact ⟨0, es, Nat.zero_le _, rfl, S1, HBL⟩
          case round =>
            obtain ⟨j, es2, hj, rfl, S2, Q2⟩ := hrel
            by_cases h2 : j < M
            · have st0 : wr.cell? ⟨gs, 0, none⟩ = some (.bool s.d) := Q2.out.cell 0
              have st1 : wr.cell? ⟨gs, 1, none⟩ = some (.int .u8 (s.b.toNat : Int)) := Q2.out.cell 1
              have blt := s.b.toNat_lt
              obtain ⟨bb, hbb⟩ : ∃ bb : UInt8, ((s.b.toNat : Int) + (j : Int)) % 256 = (bb.toNat : Int) := ⟨UInt8.ofNat ((s.b.toNat + j) % 256), by rw [UInt8.toNat_ofNat']; omega⟩
              go_upto_region 12 with fail
              rw [hbb]
              clear hbb st0
              have blt2 : bb.toNat < 256 := bb.toNat_lt
              have hbi : (bb.toNat : Int) < 256 := by omega
              have NB := Lib.hid (fun i (q : i = gh ∨ i = gs) => show i < wr.heap.size by
                rcases q with q | q
                · rw [q]; exact Blk.lt S2.out.has
                · rw [q]; exact Q2.out.lt)
              by_cases hsd : s.d = true
              · have HSD := Lib.hid hsd
                have st0 : wr.cell? ⟨gs, 0, none⟩ = some (.bool true) := by rw [← hsd]; exact Q2.out.cell 0
                clear hsd
                obtain ⟨n1, CD⟩ := S2.out.own_.drop_ S2.out.below.size NB.out bb _ rfl
                have CD := Lib.hid CD
                go_wp2_with fail
                (with_reducible refine CD.out.mono ?_)
                rintro e w2 ⟨rfl, o2, k2⟩
                have Q3 := Lib.hid (show Blk w2 gs #[.bool s.d, .int .u8 (s.b.toNat : Int), .int .u8 (s.m.toNat : Int), .int .i64 s.x] from k2.blk Q2.out (by rintro (q | ⟨_, q⟩); (have := NG.out; omega); exact q (Or.inr rfl)))
                have st0' : w2.cell? ⟨gs, 0, none⟩ = some (.bool true) := by rw [← HSD.out]; exact Q3.out.cell 0
                have L2 : Lst w2 gh (yesL (hasE es2)) := k2.blk S2.out.has (by rintro (q | ⟨_, q⟩); (have := GH.out; omega); exact q (Or.inl rfl))
                have z1 : w2.cell? ⟨gh, bb.toNat, none⟩ = some (.bool (hasE es2 bb.toNat)) := by rw [Lst.at_ L2, yesL_at blt2]
                have z2 : w2.frozen? ⟨gh, bb.toNat, none⟩ = false := Blk.fz L2 _
                have S3 := Lib.hid (St.put S2.out (by have := GH.out; omega) (Or.inl rfl) (Nat.le_refl _) o2 k2 (by have := GH.out; omega) bb false (by funext i; exact has_drop S2.out.up bb i) (self_drop S2.out.up S2.out.self bb))
                have Q4 := Lib.hid ((Kept.set_ (D := (· = gh)) w2 ⟨gh, bb.toNat, none⟩ (.bool false) rfl).blk Q3.out (by have := NG.out; omega))
                clear L2 o2 k2 st0 st1 CD
                go_wp2
                exact ⟨⟨j + 1, _, by omega, by go_num, S3, Q4⟩, by simp [intOf]; omega⟩
              · replace hsd : s.d = false := by simpa using hsd
                have HSD := Lib.hid hsd
                have st0 : wr.cell? ⟨gs, 0, none⟩ = some (.bool false) := by rw [← hsd]; exact Q2.out.cell 0
                clear hsd
                obtain ⟨n1, CD⟩ := S2.out.own_.set_ S2.out.below.size NB.out bb (bb.toNat : Int) _ rfl
                have CD := Lib.hid CD
                go_wp2_with fail
                (with_reducible refine CD.out.mono ?_)
                rintro e w2 ⟨rfl, o2, k2⟩
                have Q3 := Lib.hid (show Blk w2 gs #[.bool s.d, .int .u8 (s.b.toNat : Int), .int .u8 (s.m.toNat : Int), .int .i64 s.x] from k2.blk Q2.out (by rintro (q | ⟨_, q⟩); (have := NG.out; omega); exact q (Or.inr rfl)))
                have st0' : w2.cell? ⟨gs, 0, none⟩ = some (.bool false) := by rw [← HSD.out]; exact Q3.out.cell 0
                have L2 : Lst w2 gh (yesL (hasE es2)) := k2.blk S2.out.has (by rintro (q | ⟨_, q⟩); (have := GH.out; omega); exact q (Or.inl rfl))
                have z1 : w2.cell? ⟨gh, bb.toNat, none⟩ = some (.bool (hasE es2 bb.toNat)) := by rw [Lst.at_ L2, yesL_at blt2]
                have z2 : w2.frozen? ⟨gh, bb.toNat, none⟩ = false := Blk.fz L2 _
                have S3 := Lib.hid (St.put S2.out (by have := GH.out; omega) (Or.inl rfl) (Nat.le_refl _) o2 k2 (by have := GH.out; omega) bb true (by funext i; exact has_set S2.out.up bb _ i) (self_set S2.out.up S2.out.self bb))
                have Q4 := Lib.hid ((Kept.set_ (D := (· = gh)) w2 ⟨gh, bb.toNat, none⟩ (.bool true) rfl).blk Q3.out (by have := NG.out; omega))
                clear L2 o2 k2 st0 st1 CD
                go_wp2
                exact ⟨⟨j + 1, _, by omega, by go_num, S3, Q4⟩, by simp [intOf]; omega⟩
            · obtain rfl : j = M := by omega
              have S3 := Lib.hid (show St w w.heap.size gh (· = gh) wr es2 from ⟨S2.out.own_.fewer (fun i q => Or.inl q), S2.out.has, S2.out.self, S2.out.below⟩)
              go_wp2
              exact ⟨⟨k + 1, es2, by omega, by go_num, S3⟩, by simp [intOf]; omega⟩
        · obtain rfl : k = m := by omega
          go_wp2_with fail
          go_meet
          exact ⟨es, SK⟩
    case rest =>
      obtain ⟨es, SK⟩ := hcut
      obtain ⟨V0, hV0⟩ : ∃ V0, V0 = wc := ⟨_, rfl⟩
      rw [← hV0] at SK ⊢
      clear hV0 wc SVV
      obtain ⟨gc, hgc⟩ : ∃ gc, V0.heap.size = gc := ⟨_, rfl⟩
      have BC := Lib.hid (show w.heap.size ≤ gc by rw [← hgc]; exact SK.out.below.size)
      have CC := Lib.hid (show Calls Try.prog 17 #[.pointer (some ⟨w.heap.size, 0, none⟩)] V0 fun e w' => e = .returned (.pointer (some ⟨gc, 0, none⟩)) ∧ Own gc (fun _ => False) w' gc es ∧ Below gc V0 w' from by
        obtain ⟨v, u, h1, _⟩ := SK.out.own_
        refine (wcopy_any h1 (by omega)).mono ?_
        rintro e w' ⟨v', rfl, k1, k2, k3⟩
        rw [hgc] at k1 k2 k3 ⊢
        exact ⟨rfl, ⟨v', u, k1, fun i hi => ⟨Nat.le_of_lt (k3 i hi), fun q => q⟩⟩, k2⟩)
      go_wp2_with fail
      (with_reducible refine CC.out.mono ?_)
      rintro e W2 ⟨rfl, h2, b2⟩
      have O2 := Lib.hid h2
      have Z2 := Lib.hid b2
      clear h2 b2 CC
      go_upto_region 19 with fail
      go_cut [72, 73, 74] (fun s72 s73 s74 wc => ∃ m2 : Nat, m2 ≤ n2 ∧ m2 ≤ 30 ∧ s72 = .slice A2 m2 c2 ∧ s73 = .int .i64 m2 ∧ s74 = .int .i64 0 ∧ wc = W2)
      case first =>
        by_cases h60 : n2 ≤ 30
        all_goals
          go_wp2_with fail
          go_meet
        · exact ⟨n2, Nat.le_refl _, h60, rfl, rfl, rfl, rfl⟩
        · exact ⟨30, by omega, Nat.le_refl _, rfl, rfl, rfl, rfl⟩
      case rest =>
        obtain ⟨m2, hmn2, hm62, rfl, rfl, rfl, hwc⟩ := hcut
        subst hwc
        go_upto_block 4 with fail
        go_cut [74] (fun s74 wc => Hid (Below gc V0 wc))
        case first =>
          go_wp2_with fail
          go_loopw [74] (fun i wr => ∃ (k : Nat) (es2 : List Ent), k ≤ m2 ∧ i = .int .i64 k ∧ Hid (Own gc (fun _ => False) wr gc es2) ∧ Hid (Below gc V0 wr)) (fun i _ => m2 - (intOf i).toNat)
          case atStart => exact ⟨0, es, Nat.zero_le _, rfl, O2, Z2⟩
          case round =>
            obtain ⟨k, es1, hk, rfl, OK1, ZK⟩ := hrel
            by_cases h1 : k < m2
            · obtain ⟨ad, s, rfl, hadb, hsk, hx, hd0, hd1, hd2, hd3⟩ := (HS2.out.below (SK.out.below.trans (ZK.out.mono BC.out))).at_ (k := k) (by omega)
              have e1 : (⟨(ad.add (k * 4)).block, (ad.add (k * 4)).off + 1, none⟩ : Addr) = ad.add (k * 4 + 1) := by rw [← add_of_add]; rfl
              have e2 : (⟨(ad.add (k * 4)).block, (ad.add (k * 4)).off + 2, none⟩ : Addr) = ad.add (k * 4 + 2) := by rw [← add_of_add]; rfl
              have e3 : (⟨(ad.add (k * 4)).block, (ad.add (k * 4)).off + 3, none⟩ : Addr) = ad.add (k * 4 + 3) := by rw [← add_of_add]; rfl
              rw [← e1] at hd1
              rw [← e2] at hd2
              rw [← e3] at hd3
              clear hsk e1 e2 e3 hadb hx
              obtain ⟨gs, hgs⟩ : ∃ gs, wr.heap.size = gs := ⟨_, rfl⟩
              obtain ⟨V1, hV1⟩ : ∃ V1, wr.alloc (.cells #[.bool s.d, .int .u8 (s.b.toNat : Int), .int .u8 (s.m.toNat : Int), .int .i64 s.x] 35) = V1 := ⟨_, rfl⟩
              have hlt : gc < wr.heap.size := by obtain ⟨v, u, h1, _⟩ := OK1.out; exact h1.lt.1
              have NG := Lib.hid (show gc < gs by rw [← hgs]; exact hlt)
              have hA : Below wr.heap.size wr V1 := by rw [← hV1]; exact (Below.refl _ _).alloc (Nat.le_refl _) _
              have hst : Blk V1 gs #[.bool s.d, .int .u8 (s.b.toNat : Int), .int .u8 (s.m.toNat : Int), .int .i64 s.x] := by rw [← hV1, ← hgs]; exact Blk.new wr _ _
              have S1 := Lib.hid (show Own gc (fun i => i = gs) V1 gc es1 from ((OK1.out.more (k := gs) (by omega)).fewer (fun i q => Or.inr q)).below hA)
              have Z1 := Lib.hid (ZK.out.trans (hA.mono (by omega)))
              have st2 : V1.cell? ⟨gs, 2, none⟩ = some (.int .u8 (s.m.toNat : Int)) := hst.cell 2
              have mlt := s.m.toNat_lt
              have HBL := Lib.hid hst
              have HV1 := Lib.hid hV1
              clear hst hV1 hA hlt
              go_upto_region 22 with fail
              try rw [HV1.out]
              try rw [hgs]
              clear HV1 hgs
              obtain ⟨M, hM⟩ : ∃ M : Nat, ((s.m.toNat : Int) % 70) = (M : Int) := ⟨s.m.toNat % 70, by omega⟩
              have hM69 : M ≤ 69 := by omega
              go_wp2_with fail
              rw [hM]
              clear hM st2 hd0 hd1 hd2 hd3
              go_loopw [82] (fun i wr2 => ∃ (j : Nat) (es2 : List Ent), j ≤ M ∧ i = .int .i64 j ∧ Hid (Own gc (fun i => i = gs) wr2 gc es2) ∧ Hid (Below gc V0 wr2) ∧ Hid (Blk wr2 gs #[.bool s.d, .int .u8 (s.b.toNat : Int), .int .u8 (s.m.toNat : Int), .int .i64 s.x])) (fun i _ => M - (intOf i).toNat)
              case atStart => exact ⟨0, es1, Nat.zero_le _, rfl, S1, Z1, HBL⟩
              case round =>
                obtain ⟨j, es2, hj, rfl, S2, Z2, Q2⟩ := hrel
                by_cases h2 : j < M
                · have st1 : wr.cell? ⟨gs, 1, none⟩ = some (.int .u8 (s.b.toNat : Int)) := Q2.out.cell 1
                  have blt := s.b.toNat_lt
                  have gsz : gc ≤ wr.heap.size := by have := NG.out; have := Q2.out.lt; omega
                  obtain ⟨bb, hbb⟩ : ∃ bb : UInt8, ((s.b.toNat : Int) + (j : Int)) % 256 = (bb.toNat : Int) := ⟨UInt8.ofNat ((s.b.toNat + j) % 256), by rw [UInt8.toNat_ofNat']; omega⟩
                  have NB := Lib.hid (fun i (q : i = gs) => show i < wr.heap.size by rw [q]; exact Q2.out.lt)
                  by_cases hsd : s.d = true
                  · have HSD := Lib.hid hsd
                    have st0 : wr.cell? ⟨gs, 0, none⟩ = some (.bool true) := by rw [← hsd]; exact Q2.out.cell 0
                    clear hsd
                    obtain ⟨n1, CD⟩ := S2.out.drop_ gsz NB.out bb _ rfl
                    have CD := Lib.hid CD
                    go_upto_region 26 with fail
                    go_wp2_with fail
                    try rw [hbb]
                    (with_reducible refine CD.out.mono ?_)
                    rintro e w2 ⟨rfl, o2, k2⟩
                    have Q3 := Lib.hid (show Blk w2 gs #[.bool s.d, .int .u8 (s.b.toNat : Int), .int .u8 (s.m.toNat : Int), .int .i64 s.x] from k2.blk Q2.out (by rintro (q | ⟨_, q⟩); (have := NG.out; omega); exact q rfl))
                    have O3 := Lib.hid o2
                    have Z3 := Lib.hid (Z2.out.trans (k2.below gsz (fun i q => by rcases q with q | q <;> omega)))
                    clear o2 k2 st0 st1 CD
                    go_wp2
                    exact ⟨⟨j + 1, _, by omega, by go_num, O3, Z3, Q3⟩, by simp [intOf]; omega⟩
                  · replace hsd : s.d = false := by simpa using hsd
                    have HSD := Lib.hid hsd
                    have st0 : wr.cell? ⟨gs, 0, none⟩ = some (.bool false) := by rw [← hsd]; exact Q2.out.cell 0
                    clear hsd
                    obtain ⟨n1, CD⟩ := S2.out.set_ gsz NB.out bb (-1) _ rfl
                    have CD := Lib.hid CD
                    go_upto_region 27 with fail
                    go_wp2_with fail
                    try rw [hbb]
                    (with_reducible refine CD.out.mono ?_)
                    rintro e w2 ⟨rfl, o2, k2⟩
                    have Q3 := Lib.hid (show Blk w2 gs #[.bool s.d, .int .u8 (s.b.toNat : Int), .int .u8 (s.m.toNat : Int), .int .i64 s.x] from k2.blk Q2.out (by rintro (q | ⟨_, q⟩); (have := NG.out; omega); exact q rfl))
                    have O3 := Lib.hid o2
                    have Z3 := Lib.hid (Z2.out.trans (k2.below gsz (fun i q => by rcases q with q | q <;> omega)))
                    clear o2 k2 st0 st1 CD
                    go_wp2
                    exact ⟨⟨j + 1, _, by omega, by go_num, O3, Z3, Q3⟩, by simp [intOf]; omega⟩
                · obtain rfl : j = M := by omega
                  have S3 := Lib.hid (S2.out.fewer (N' := fun _ => False) (fun i q => q.elim))
                  go_wp2
                  exact ⟨⟨k + 1, es2, by omega, by go_num, S3, Z2⟩, by simp [intOf]; omega⟩
            · obtain rfl : k = m2 := by omega
              go_wp2_with fail
              go_meet
              exact ZK
        case rest =>
          obtain ⟨V3, hV3⟩ : ∃ V3, V3 = wc := ⟨_, rfl⟩
          rw [← hV3] at hcut ⊢
          have ZC := hcut
          clear hV3 wc hcut O2 Z2
          have S3 := Lib.hid (show St w w.heap.size gh (· = gh) V3 es from ⟨SK.out.own_.below (by rw [hgc]; exact ZC.out), Blk.below SK.out.has ZC.out (by rw [← hgc]; exact Blk.lt SK.out.has), SK.out.self, SK.out.below.trans (ZC.out.mono BC.out)⟩)
          have UP := Lib.hid S3.out.up
          clear SK ZC hgc
          go_wp2_with fail
          go_loopw [16, 103] (fun q i wr => ∃ k : Nat, k ≤ 256 ∧ q = .int .i64 (pos es k : Int) ∧ i = .int .i64 k ∧ Hid (Still V3 wr)) (fun _ i _ => 256 - (intOf i).toNat)
          case atStart => exact ⟨0, Nat.zero_le _, by simp [pos_zero], rfl, Lib.hid (Still.refl _)⟩
          case round =>
            obtain ⟨k, hk, rfl, rfl, q, rfl⟩ := hrel
            have G1 := Lib.hid (fun (b : UInt8) (z : Int) (hz : z = (b.toNat : Int)) => show Calls Try.prog 14 #[.pointer (some ⟨w.heap.size, 0, none⟩), .int .u8 z] (V3.drewN q) fun e w' => e = .returned (.tuple #[ev (getE es b.toNat), .bool (hasE es b.toNat)]) ∧ Still (V3.drewN q) w' from by
              obtain ⟨v, u, h1, _⟩ := S3.out.own_
              exact wget_z (h1.drewN q) b z hz)
            by_cases h1 : k < 256
            · have c1 : V3.cell? ⟨gh, k, none⟩ = some (.bool (hasE es k)) := by rw [Lst.at_ S3.out.has, yesL_at h1]
              have hki : (k : Int) < 256 := by omega
              have hkm : (k : Int) % 256 = (k : Int) := by omega
              have hp : pos es k ≤ 256 := Nat.le_trans (pos_le es k) (few256 UP.out)
              cases hb : hasE es k with
              | true =>
                have E1 := Lib.hid (pos_yes UP.out hb)
                have C1 := Lib.hid (show Calls Try.prog 14 #[.pointer (some ⟨w.heap.size, 0, none⟩), .int .u8 (k : Int)] (V3.drewN q) fun e w' => e = .returned (.tuple #[.int .i64 (k : Int), .bool true]) ∧ Still (V3.drewN q) w' from by
                  have e : (UInt8.ofNat k).toNat = k := by rw [UInt8.toNat_ofNat']; omega
                  have := G1.out (UInt8.ofNat k) k (by rw [e])
                  rw [e, S3.out.self k h1 hb, hb] at this
                  exact this)
                rw [hb] at c1
                clear G1 hb
                generalize pos es k = p at hp E1
                go_wp2_with fail
                try rw [hkm]
                (with_reducible refine C1.out.mono ?_)
                rintro e w' ⟨rfl, q2, rfl⟩
                go_wp2
                exact ⟨⟨k + 1, by omega, by rw [E1.out]; go_num, by go_num, Lib.hid (by repeat (first | exact Still.refl _ | apply Still.step))⟩, by simp [intOf]; omega⟩
              | false =>
                have E1 := Lib.hid (pos_not UP.out hb)
                have C1 := Lib.hid (show Calls Try.prog 14 #[.pointer (some ⟨w.heap.size, 0, none⟩), .int .u8 (k : Int)] (V3.drewN q) fun e w' => e = .returned (.tuple #[.int .i64 (getE es k), .bool false]) ∧ Still (V3.drewN q) w' from by
                  have e : (UInt8.ofNat k).toNat = k := by rw [UInt8.toNat_ofNat']; omega
                  have := G1.out (UInt8.ofNat k) k (by rw [e])
                  rw [e, hb] at this
                  exact this)
                rw [hb] at c1
                clear G1 hb
                generalize getE es k = y at C1
                generalize pos es k = p at hp E1
                go_wp2_with fail
                try rw [hkm]
                (with_reducible refine C1.out.mono ?_)
                rintro e w' ⟨rfl, q2, rfl⟩
                go_wp2
                exact ⟨⟨k + 1, by omega, by rw [E1.out], by go_num, Lib.hid (by repeat (first | exact Still.refl _ | apply Still.step))⟩, by simp [intOf]; omega⟩
            · obtain rfl : k = 256 := by omega
              rw [pos_all]
              have CL := Lib.hid (show Calls Try.prog 13 #[.pointer (some ⟨w.heap.size, 0, none⟩)] (V3.drewN q) fun e w' => e = .returned (.int .i64 (es.length : Int)) ∧ Still (V3.drewN q) w' from by
                obtain ⟨v, u, h1, _⟩ := S3.out.own_
                exact wlen_any (h1.drewN q))
              clear G1
              go_wp2_with fail
              (with_reducible refine CL.out.mono ?_)
              rintro e w' ⟨rfl, q2, rfl⟩
              go_wp2_with fail
              (with_reducible refine (walive_any _).mono ?_)
              rintro e w3 ⟨rfl, h3⟩
              have B3 := Lib.hid ((below_drewN S3.out.below (q + q2)).trans (h3.mono (below_drewN S3.out.below (q + q2)).size))
              clear h3
              go_wp2
              go_ret
              exact ⟨rfl, B3.out⟩

set_option maxRecDepth 100000 in
theorem lifted (os : Os) (started : os.Started) (H : Type) (enc : TypeId × Value → H) :
    ReturnsInHanded {} Try.checked os 4 .any (Rows.wideCopiesSpec.pre6 enc Try.prog Try.f4 Rows.wideCopiesRow.domain false) (Rows.wideCopiesSpec.post enc Try.prog Try.f4 false true false false) := by
  refine returnsInHanded_of_change (C := Try.checked) own started (by kernel_rfl) Try.func4
    (ChangeSpec.witness6 (enc := enc) (C := Try.checked) false ⟨#[], #[.slice none 0 0, .slice none 0 0], []⟩ 8 (by kernel_rfl) (by kernel_rfl) (by kernel_rfl) (by kernel_rfl)) ?_
  intro W base args ds gs before hval0 hW hcnd _
  have hval : ∀ (j : Nat) t v, Try.f4.params[j]? = some t → args[j]? = some v → Value.okWide Try.prog W .any base t v := hval0
  have hW' := hW
  obtain ⟨p, q, hA0, hV, rfl, hfz, hnd⟩ := hW
  have hA : DataW.TrodAll enc Try.prog W 0 (fun _ => true) true Try.f4.params.toList args.toList ds p := hA0
  rw [Try.params4] at hA hval
  obtain ⟨v0, vs0, d0, ds0, p0, q0, hargs, rfl, rfl, h0, r0⟩ := trodAll_cons hA
  obtain ⟨v1, vs1, d1, ds1, p1, q1, rfl, rfl, rfl, h1, r1⟩ := trodAll_cons r0
  obtain ⟨rfl, rfl, rfl⟩ := trodAll_nil r1
  obtain rfl : args = #[v0, v1] := by cases args; simp_all
  obtain ⟨rfl, rfl⟩ := trodVars_none hV
  have k0 := h0
  have lt0 : ∀ x ∈ p0, x.block < W.heap.size := by obtain ⟨m, hm⟩ := k0; exact DataW.trod_lt m _ _ _ hm
  have k1 := h1
  have lt1 : ∀ x ∈ p1, x.block < W.heap.size := by obtain ⟨m, hm⟩ := k1; exact DataW.trod_lt m _ _ _ hm
  obtain ⟨A0, n0, c0, l0, rfl, b0, nc0⟩ := open_sts (hval 0 22 v0 rfl rfl) h0
  obtain ⟨A1, n1, c1, l1, rfl, b1, nc1⟩ := open_sts (hval 1 22 v1 rfl rfl) h1
  clear hA0 hval0
  refine (walk A0 n0 c0 l0 A1 n1 c1 l1 W b0 nc0 b1 nc1).mono fun e W' ⟨he, bel⟩ => ?_
  subst he
  exact ⟨_, rfl, _, _, _, [], _, [], hW', trodAll_mk1 (shut_bool Try.underlying4 _), (trodAll_cons_mk (Below.trod laidOut (by kernel_rfl) (of_decide_eq_true (by kernel_rfl)) k0 bel lt0) (trodAll_cons_mk (Below.trod laidOut (by kernel_rfl) (of_decide_eq_true (by kernel_rfl)) k1 bel lt1) trodAll_mk0)), rfl, bel.frame _, fun h => by cases h⟩

set_option maxRecDepth 100000 in
theorem proved : Rows.WideCopiesSaid :=
  OpenClaim.holds_of_wide 4 Try.f4 rfl rfl rfl rfl rfl rfl rfl ⟨rfl, rfl, rfl, rfl, rfl⟩ rfl rfl rfl rfl rfl (by kernel_rfl) Try.func4 (by kernel_rfl)
    (of_decide_eq_true (by kernel_rfl)) (by unfold Func.isWrapper; first | (rw [if_pos (by decide +kernel)]; kernel_rfl) | (rw [if_neg (by decide +kernel)]; exact ⟨rfl, rfl⟩))
    (fun os started H enc _ => lifted os started H enc)
end Go.Proofs.Ytgaoefhmjdhacaa.wideCopies
