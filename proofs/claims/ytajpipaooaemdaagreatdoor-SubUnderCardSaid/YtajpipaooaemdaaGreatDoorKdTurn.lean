/-
  Package kids: what is done with a row or a board, in one word; all that one holds is put into another one.
  Package kids: kids of nothing, of any room; kids turned into another kind.
  Package kids: Set and Drop of kids that New gave.
  Package kids: Drop and Copy of kids that New gave; nobody's.
  Package kids: Copy of kids that New gave; nobody's.
  Kids that lie in blocks from B on, none of them in N: what is asked of them, what is done with them.
-/
import Derived.Test.YtajpipaooaemdaaGreatDoorKd
import Derived.Deep.RegionHeld3
namespace Go.Proofs.YtajpipaooaemdaaGreatDoor
open Go.RowKit

/-- The k first and the one behind them. -/
theorem take_set {es : List Ent} (h : Up es) {k : Nat} {e : Ent} (he : es[k]? = some e) : hasE (es.take k) e.1.toNat = false ∧ setE (es.take k) e.1 e.2 = es.take (k + 1) := by
  have hk : k < es.length := (List.getElem?_eq_some_iff.1 he).1
  have hu : Up (es.take k) := h.sublist (List.take_sublist _ _)
  have hl : (es.take k).length = k := by rw [List.length_take]; omega
  have hlt : ∀ (t : Nat) (a : Ent), (es.take k)[t]? = some a → a.1.toNat < e.1.toNat := fun t a ha => by
    rw [List.getElem?_take] at ha
    split at ha
    · exact h.at_ (by assumption) ha he
    · cases ha
  have hn : hasE (es.take k) e.1.toNat = false := by
    cases q : hasE (es.take k) e.1.toNat with
    | false => rfl
    | true =>
      obtain ⟨a, ha, hb⟩ := (has_mem hu).1 q
      obtain ⟨t, ht⟩ := List.mem_iff_getElem?.1 ha
      have := hlt t a ht; omega
  have hp : pos (es.take k) e.1.toNat = k := by
    refine pos_of (by omega) (fun t a _ ha => hlt t a ha) (fun t a ht ha => ?_)
    have := (List.getElem?_eq_some_iff.1 ha).1
    omega
  refine ⟨hn, ?_⟩
  unfold setE
  rw [if_neg (by rw [hn]; simp), hp, List.take_of_length_le (by omega), List.drop_eq_nil_of_le (by omega)]
  rw [List.take_add_one, he]
  rfl
theorem next_up (es : List Ent) (h : Up es) {k : Nat} (hk : k ≤ es.length) : nextE es (upA es k : Int) = es[k]? := by
  by_cases q : upA es k ≤ 255
  · exact next_upA h hk q
  · have := upA_end h hk (by omega)
    unfold nextE
    rw [if_pos (by omega), this, List.getElem?_eq_none (Nat.le_refl _)]

/-- It, as either; its methods. -/
def Ho.T : Ho → TypeId
  | .row _ _ => 139
  | .board _ _ => 140
def Ho.fSet : Ho → FuncId
  | .row _ _ => 140
  | .board _ _ => 158
def Ho.fNext : Ho → FuncId
  | .row _ _ => 137
  | .board _ _ => 155
def Ho.at_ : Ho → Nat
  | .row r _ => r
  | .board r _ => r
theorem Ho.face_is (o : Ho) : o.face = .iface o.T (.pointer (some ⟨o.at_, 0, none⟩)) := by cases o <;> rfl
set_option maxRecDepth 100000 in
theorem Ho.mSet (o : Ho) (a : Option Addr) (w : World) : (method 291 o.T (.pointer a) "Set").run Tryz.prog w = .ok (o.fSet, .pointer a) w := by
  cases o
  · exact m_row_Set a w
  · exact m_board_Set a w
set_option maxRecDepth 100000 in
theorem Ho.mNext (o : Ho) (a : Option Addr) (w : World) : (method 291 o.T (.pointer a) "Next").run Tryz.prog w = .ok (o.fNext, .pointer a) w := by
  cases o
  · exact m_row_Next a w
  · exact m_board_Next a w

set_option maxRecDepth 100000 in
theorem Ho.cSet (o : Ho) (xs : Array Value) (w : World) : (callFunc o.fSet xs).run Tryz.prog w = .ok (.enter o.fSet xs) w := by
  cases o
  · exact Tryz.call140 xs w
  · exact Tryz.call158 xs w
set_option maxRecDepth 100000 in
theorem Ho.cNext (o : Ho) (xs : Array Value) (w : World) : (callFunc o.fNext xs).run Tryz.prog w = .ok (.enter o.fNext xs) w := by
  cases o
  · exact Tryz.call137 xs w
  · exact Tryz.call155 xs w

/-- What Set and Drop leave: the same one, that holds es; its blocks are those that it had, or new. -/
def HoPost (w w' : World) (o : Ho) (room : Nat) (es : List Ent) : Prop :=
  ∃ o' : Ho, o'.Is w' room es ∧ o'.face = o.face ∧ o'.two = o.two ∧ (∀ i, o'.D i → o.D i ∨ w.heap.size ≤ i) ∧ Kept o.D w w'
section
variable {w : World} {o : Ho} {room : Nat} {es : List Ent}
set_option maxRecDepth 100000 in
theorem hset_any (h : o.Is w room es) (b : UInt8) (x : Th) (z : Int) (hz : z = (b.toNat : Int)) : Calls Tryz.prog o.fSet #[.pointer (some ⟨o.at_, 0, none⟩), .int .u8 z, ev x] w fun e w' =>
    e = .returned (.int .i64 (setN room es b)) ∧ HoPost w w' o room (setR room es b x) := by
  cases o with
  | row r t =>
    refine (sset_any h b x z hz).mono ?_
    rintro e w' ⟨rfl, h1, h2⟩
    exact ⟨rfl, .row r t, h1, rfl, rfl, fun i hi => .inl hi, h2⟩
  | board r v =>
    obtain ⟨hr, u, h⟩ := h
    refine (wset_any h (by omega) b x z hz).mono ?_
    rintro e w' ⟨rfl, v', u', h1, h2, h3, _⟩
    refine ⟨rfl, .board r v', ⟨hr, u', h1⟩, rfl, rfl, fun i hi => ?_, h2⟩
    rcases hi with rfl | hi
    · exact .inl (.inl rfl)
    · rcases h3 i hi with q | q
      · exact .inl (.inr q)
      · exact .inr q
set_option maxRecDepth 100000 in
theorem hnext_any (h : o.Is w room es) (a : Int) (ha : -9223372036854775808 ≤ a) : Calls Tryz.prog o.fNext #[.pointer (some ⟨o.at_, 0, none⟩), .int .i64 a] w fun e w' => e = .returned (entV (nextE es a)) ∧ Still w w' := by
  cases o with
  | row r t => exact snext_any (Sm.rd h) a ha
  | board r v => obtain ⟨hr, u, h⟩ := h; exact wnext_any h a ha
end

theorem Kept.of_below' {B : Nat} {w w' : World} (h : Below B w w') : Kept (fun i => B ≤ i) w w' := ⟨h.os, h.tape, h.output, h.size, fun k _ hd => h.block k (Nat.lt_of_not_le hd)⟩
/-- One that holds es, in blocks from B on; with the face and the cells that it had. -/
def HoIn (B : Nat) (f : Value) (l : List Value) (room : Nat) (w : World) (es : List Ent) : Prop :=
  ∃ o : Ho, o.Is w room es ∧ o.face = f ∧ o.two = l ∧ ∀ i, o.D i → B ≤ i
theorem face_at {o o' : Ho} (h : o.face = o'.face) : o.T = o'.T ∧ o.at_ = o'.at_ ∧ o.fSet = o'.fSet := by
  cases o <;> cases o' <;> simp_all [Ho.face, Ho.T, Ho.at_, Ho.fSet]
set_option maxRecDepth 100000 in
theorem HoIn.set_ {B : Nat} {o0 : Ho} {l : List Value} {room : Nat} {w : World} {es : List Ent} (h : HoIn B o0.face l room w es) (hB : B ≤ w.heap.size) (b : UInt8) (x : Th) :
    ∃ n, Calls Tryz.prog o0.fSet #[.pointer (some ⟨o0.at_, 0, none⟩), .int .u8 (b.toNat : Int), ev x] w fun e w' => e = .returned (.int .i64 n) ∧ HoIn B o0.face l room w' (setR room es b x) ∧ Below B w w' := by
  obtain ⟨o, h1, h2, h3, h4⟩ := h
  obtain ⟨_, e2, e3⟩ := face_at h2
  refine ⟨setN room es b, ?_⟩
  rw [← e2, ← e3]
  refine (hset_any h1 b x _ rfl).mono ?_
  rintro e w' ⟨rfl, o', k1, k2, k3, k4, k5⟩
  refine ⟨rfl, ⟨o', k1, k2.trans h2, k3.trans h3, fun i hi => ?_⟩, k5.below hB (fun i hi => h4 i hi)⟩
  rcases k4 i hi with q | q
  · exact h4 i q
  · omega

set_option maxRecDepth 100000 in
theorem kmove_any {w : World} {o d : Ho} {ro rd B : Nat} {es : List Ent} (ho : o.Is w ro es) (hd : d.Is w rd []) (hoB : ∀ i, o.D i → i < B) (hdB : ∀ i, d.D i → B ≤ i) (hB : B ≤ w.heap.size) (hr : es.length ≤ rd) :
    Calls Tryz.prog 113 #[o.face, d.face] w fun e w' => e = .returned (.tuple #[]) ∧ HoIn B d.face d.two rd w' es ∧ Below B w w' := by
  have hu := ho.up
  have N0 : nextE es 0 = es[0]? := by have := next_up es hu (k := 0) (by omega); simpa [upA] using this
  have HU := Lib.hid hu
  have HO := Lib.hid (fun (W : World) (hk : Below B w W) => show o.Is W ro es from ho.kept (Kept.of_below' hk) (fun i hi q => by have := hoB i hi; omega))
  have HD := Lib.hid (show HoIn B d.face d.two rd w [] from ⟨d, hd, rfl, rfl, hdB⟩)
  have C0 := Lib.hid (show Calls Tryz.prog o.fNext #[.pointer (some ⟨o.at_, 0, none⟩), .int .i64 0] w fun e w' => e = .returned (entV es[0]?) ∧ Still w w' from by have := hnext_any ho 0 (by omega); rwa [N0] at this)
  have HB := Lib.hid hB
  have F1 := o.mNext (some ⟨o.at_, 0, none⟩)
  have F2 := d.mSet (some ⟨d.at_, 0, none⟩)
  have E1 := o.cNext
  have E2 := d.cSet
  have hn : es.length ≤ 256 := by have := hd.few; omega
  obtain ⟨N, hN⟩ : ∃ N, es.length = N := ⟨_, rfl⟩
  rw [hN] at hr hn
  have HN := Lib.hid hN
  have C1 := Lib.hid (fun (W : World) (k : Nat) (e : Ent) (hk : k < N) (he : es[k]? = some e) (h : HoIn B d.face d.two rd W (es.take k)) (hB' : B ≤ W.heap.size) => show ∃ n, Calls Tryz.prog d.fSet #[.pointer (some ⟨d.at_, 0, none⟩), .int .u8 (e.1.toNat : Int), .pointer e.2] W fun e' w' => e' = .returned (.int .i64 n) ∧ HoIn B d.face d.two rd w' (es.take (k + 1)) ∧ Below B W w' from by
    obtain ⟨n, hc⟩ := h.set_ hB' e.1 e.2
    rw [setR, if_neg (by rintro ⟨_, q⟩; rw [List.length_take] at q; omega), (take_set hu he).2] at hc
    exact ⟨n, hc⟩)
  have C2 := Lib.hid (fun (W : World) (k : Nat) (e : Ent) (hk : k < N) (he : es[k]? = some e) (h : o.Is W ro es) => show Calls Tryz.prog o.fNext #[.pointer (some ⟨o.at_, 0, none⟩), .int .i64 ((e.1.toNat : Int) + 1)] W fun e' w' => e' = .returned (entV es[k + 1]?) ∧ Still W w' from by
    have := hnext_any h ((e.1.toNat : Int) + 1) (by omega)
    have q := next_up es hu (k := k + 1) (by omega)
    rw [upA_succ he] at q
    rw [show ((e.1.toNat : Int) + 1) = ((e.1.toNat + 1 : Nat) : Int) by omega] at this ⊢
    rwa [q] at this)
  clear hd N0 hu hB hN hoB hdB ho
  rw [o.face_is, d.face_is]
  rw [← d.face_is]
  obtain ⟨df, hdf⟩ : ∃ df, d.face = df := ⟨_, rfl⟩
  obtain ⟨dl, hdl⟩ : ∃ dl, d.two = dl := ⟨_, rfl⟩
  have hface := d.face_is
  rw [hdf] at HD C1 hface ⊢
  rw [hdl] at HD C1 ⊢
  have HF := Lib.hid hface
  rw [HF.out]
  generalize hfn : o.fNext = fn at F1 E1 C0 C2
  generalize hfs : d.fSet = fs at F2 E2 C1
  generalize hTo : o.T = To at F1 ⊢
  generalize hTd : d.T = Td at F2 HF ⊢
  generalize hao : o.at_ = ao at F1 C0 C2 ⊢
  generalize had : d.at_ = ad at F2 C1 HF ⊢
  clear hface hfn hfs hTo hTd hao had hdf hdl
  go_enter Tryz.func113, Tryz.ntmps113
  go_wp2_with fail
  (with_reducible refine C0.out.mono ?_)
  rintro e w1 ⟨rfl, q0, rfl⟩
  go_wp2_with fail
  go_loopg [4, 5, 6] N (fun q s4 s5 s6 wr => ∃ k : Nat, k + q = N ∧ s4 = .int .u8 (eb es[k]?) ∧ s5 = .pointer (ex es[k]?) ∧ s6 = .bool es[k]?.isSome ∧ Hid (HoIn B df dl rd wr (es.take k)) ∧ Hid (Below B w wr))
  case atStart => exact ⟨0, by omega, rfl, rfl, rfl, Lib.hid (by
    obtain ⟨d', h1, h2⟩ := HD.out
    exact ⟨d', h1.drewN _, h2⟩), Lib.hid (Still.below ⟨_, rfl⟩ _)⟩
  case round =>
    obtain ⟨k, hk, h4, h5, h6, HK, BK⟩ := hrel
    have OK := Lib.hid (HO.out _ BK.out)
    have SZ := Lib.hid (Nat.le_trans HB.out BK.out.size)
    by_cases hkN : k < N
    · obtain ⟨e, he⟩ : ∃ e, es[k]? = some e := ⟨es[k]'(by have := HN.out; omega), List.getElem?_eq_getElem _⟩
      obtain ⟨n, hc⟩ := C1.out _ k e hkN he HK.out SZ.out
      have HC := Lib.hid hc
      have HE := Lib.hid he
      rw [he] at h4 h5 h6
      simp only [eb, ex, Option.isSome_some] at h4 h5 h6
      subst h4 h5 h6
      have hlt := e.1.toNat_lt
      have ew : IntKind.i64.wrap ((e.1.toNat : Int) + 1) = (e.1.toNat : Int) + 1 := by rw [IntKind.wrap_i64]; omega
      clear hc he
      go_wp2_with fail
      (with_reducible refine HC.out.mono ?_)
      rintro e' w2 ⟨rfl, k1, k2⟩
      have K1 := Lib.hid k1
      have K2 := Lib.hid k2
      have HC2 := Lib.hid (C2.out w2 k e hkN HE.out (HO.out w2 (BK.out.trans k2)))
      clear k1 k2
      go_wp2_with fail
      (with_reducible refine HC2.out.mono ?_)
      rintro e' w3 ⟨rfl, q3, rfl⟩
      go_wp2_with fail
      go_roundg (N - (k + 1))
      case measure => omega
      case rel =>
        refine ⟨k + 1, by omega, rfl, rfl, rfl, Lib.hid ?_, Lib.hid ((BK.out.trans K2.out).trans (Still.below ⟨_, rfl⟩ _))⟩
        obtain ⟨d', h1, h2⟩ := K1.out
        exact ⟨d', h1.drewN _, h2⟩
    · have he : es[k]? = none := List.getElem?_eq_none (by have := HN.out; omega)
      rw [he] at h4 h5 h6
      simp only [eb, ex, Option.isSome_none] at h4 h5 h6
      subst h4 h5 h6
      have HT := Lib.hid (show es.take k = es from List.take_of_length_le (by have := HN.out; omega))
      go_wp2
      go_end0
      exact ⟨rfl, by rw [← HT.out, ← HF.out]; exact HK.out, BK.out⟩
end Go.Proofs.YtajpipaooaemdaaGreatDoor

namespace Go.Proofs.YtajpipaooaemdaaGreatDoor
open Go.RowKit

/-- Kids of nothing, new; what stands for them is newer. -/
def RoomPost (w : World) (room : Nat) (e : Ending) (w' : World) : Prop :=
  ∃ o : Ho, e = .returned (.pointer (some ⟨w.heap.size, 0, none⟩)) ∧ Kr w' w.heap.size o room [] ∧ (∀ i, o.D i → w.heap.size < i) ∧ Below w.heap.size w w'
set_option maxRecDepth 100000 in
theorem kroom_row (w : World) (room : Nat) (h1 : 1 ≤ room) (h2 : room ≤ 16) : Calls Tryz.prog 101 #[.int .i64 (room : Int)] w fun e w' => RoomPost w room e w' := by
  obtain ⟨V, hV⟩ : ∃ V, w.alloc (.cells #[.pointer none, .pointer none] 142) = V := ⟨_, rfl⟩
  have L1 : Lst V w.heap.size [.pointer none, .pointer none] := by rw [← hV]; exact Blk.new w _ _
  have b0 : Below w.heap.size w V := by rw [← hV]; exact (Below.refl _ _).alloc (Nat.le_refl _) _
  have hs : V.heap.size = w.heap.size + 1 := by rw [← hV, World.size_alloc]
  obtain ⟨g, hg⟩ : ∃ g, w.heap.size = g := ⟨_, rfl⟩
  have HF := Lib.hid (fun (w1 : World) (q1 : Sm w1 (V.heap.size + 1) V.heap.size room []) (q2 : Below V.heap.size V w1) => show w1.cell? ⟨g, 0, none⟩ = some (.pointer none) ∧ w1.frozen? ⟨g, 0, none⟩ = false ∧ RoomPost w room (.returned (.pointer (some ⟨g, 0, none⟩))) (w1.setCell ⟨g, 0, none⟩ (.pointer (some ⟨V.heap.size + 1, 0, none⟩))) from by
    have L2 : Lst w1 w.heap.size [.pointer none, .pointer none] := Blk.below L1 q2 (by omega)
    have L3 := Lst.set1 L2 0 (.pointer (some ⟨V.heap.size + 1, 0, none⟩))
    have k3 := Kept.set_ (D := (· = w.heap.size)) w1 ⟨w.heap.size, 0, none⟩ (.pointer (some ⟨V.heap.size + 1, 0, none⟩)) rfl
    rw [← hg]
    refine ⟨by rw [Lst.at_ L2]; rfl, Blk.fz L2 _, .row (V.heap.size + 1) V.heap.size, rfl, ⟨L3, q1.kept k3 (by omega) (by omega), fun q => ?_⟩, fun i hi => ?_, ?_⟩
    · rcases q with q | q <;> omega
    · rcases hi with q | q <;> omega
    · exact (b0.trans (q2.mono (by omega))).trans (k3.below (by have := q2.size; omega) (fun i q => by omega)))
  have C := Lib.hid (snew_yes V room h1 h2)
  have HV := Lib.hid hV
  have HG := Lib.hid hg
  have q1 : (room : Int) ≤ 16 := by omega
  clear L1 b0 hs hV hg
  go_enter Tryz.func101, Tryz.ntmps101
  go_wp2_with fail
  rw [HV.out, HG.out]
  (with_reducible refine C.out.mono ?_)
  rintro e w1 ⟨rfl, k1, k2⟩
  obtain ⟨c0, f0, hp⟩ := HF.out w1 k1 k2
  have HP := Lib.hid hp
  clear k1 k2 hp
  go_wp2
  go_ret
  exact HP.out
set_option maxRecDepth 100000 in
theorem kroom_board (w : World) (room : Nat) (h : room = 48 ∨ room = 256) : Calls Tryz.prog 101 #[.int .i64 (room : Int)] w fun e w' => RoomPost w room e w' := by
  obtain ⟨V, hV⟩ : ∃ V, w.alloc (.cells #[.pointer none, .pointer none] 142) = V := ⟨_, rfl⟩
  have L1 : Lst V w.heap.size [.pointer none, .pointer none] := by rw [← hV]; exact Blk.new w _ _
  have b0 : Below w.heap.size w V := by rw [← hV]; exact (Below.refl _ _).alloc (Nat.le_refl _) _
  have hs : V.heap.size = w.heap.size + 1 := by rw [← hV, World.size_alloc]
  obtain ⟨g, hg⟩ : ∃ g, w.heap.size = g := ⟨_, rfl⟩
  have HF := Lib.hid (fun (w1 : World) (q1 : Bd w1 V.heap.size (.slice none 0 0) room [] 0) (q2 : Below V.heap.size V w1) => show w1.cell? ⟨g, 1, none⟩ = some (.pointer none) ∧ w1.frozen? ⟨g, 1, none⟩ = false ∧ RoomPost w room (.returned (.pointer (some ⟨g, 0, none⟩))) (w1.setCell ⟨g, 1, none⟩ (.pointer (some ⟨V.heap.size, 0, none⟩))) from by
    have L2 : Lst w1 w.heap.size [.pointer none, .pointer none] := Blk.below L1 q2 (by omega)
    have L3 := Lst.set1 L2 1 (.pointer (some ⟨V.heap.size, 0, none⟩))
    have k3 := Kept.set_ (D := (· = w.heap.size)) w1 ⟨w.heap.size, 1, none⟩ (.pointer (some ⟨V.heap.size, 0, none⟩)) rfl
    rw [← hg]
    refine ⟨by rw [Lst.at_ L2]; rfl, Blk.fz L2 _, .board V.heap.size (.slice none 0 0), rfl, ⟨L3, ⟨h, 0, q1.kept k3 (fun i hi q => ?_)⟩, fun q => ?_⟩, fun i hi => ?_, ?_⟩
    · rcases hi with q' | q'
      · omega
      · simp [Value.ownBlock] at q'
    · rcases q with q | q
      · omega
      · simp [Value.ownBlock] at q
    · rcases hi with q | q
      · omega
      · simp [Value.ownBlock] at q
    · exact (b0.trans (q2.mono (by omega))).trans (k3.below (by have := q2.size; omega) (fun i q => by omega)))
  have C := Lib.hid (wnew_yes V room h)
  have HV := Lib.hid hV
  have HG := Lib.hid hg
  have q1 : ¬ ((room : Int) ≤ 16) := by omega
  clear L1 b0 hs hV hg
  go_enter Tryz.func101, Tryz.ntmps101
  go_wp2_with fail
  rw [HV.out, HG.out]
  (with_reducible refine C.out.mono ?_)
  rintro e w1 ⟨rfl, k1, k2⟩
  obtain ⟨c0, f0, hp⟩ := HF.out w1 k1 k2
  have HP := Lib.hid hp
  clear k1 k2 hp
  go_wp2
  go_ret
  exact HP.out
set_option maxRecDepth 100000 in
theorem kroom_any (w : World) (n : Nat) : Calls Tryz.prog 101 #[.int .i64 (kindN n : Int)] w fun e w' => RoomPost w (kindN n) e w' := by
  rcases kindN_two n with h | h
  · exact kroom_row w _ (by omega) (by omega)
  · exact kroom_board w _ h
set_option maxRecDepth 100000 in
theorem knew_any (w : World) : Calls Tryz.prog 88 #[] w fun e w' => RoomPost w 4 e w' := by
  have C := Lib.hid (show Calls Tryz.prog 101 #[.int .i64 4] w fun e w' => RoomPost w 4 e w' from kroom_row w 4 (by omega) (by omega))
  have K := Lib.hid (show Calls Tryz.prog 102 #[.int .i64 0] w fun e w' => e = .returned (.int .i64 4) ∧ w' = w from kindof_any w 0)
  go_enter Tryz.func88, Tryz.ntmps88
  go_wp2_with fail
  (with_reducible refine K.out.mono ?_)
  rintro e w1 ⟨rfl, rfl⟩
  go_wp2_with fail
  (with_reducible refine C.out.mono ?_)
  rintro e w2 ⟨o, rfl, h1, h2, h3⟩
  have HP := Lib.hid (show RoomPost w1 4 (.returned (.pointer (some ⟨w1.heap.size, 0, none⟩))) w2 from ⟨o, rfl, h1, h2, h3⟩)
  clear h1 h2 h3
  go_wp2
  go_ret
  exact HP.out

/-- What turning leaves: kids of another room that hold the same; all that stands for them is new. -/
def TurnPost (w w' : World) (g room : Nat) (es : List Ent) : Prop :=
  ∃ d : Ho, Kr w' g d room es ∧ (∀ i, d.D i → w.heap.size ≤ i) ∧ Kept (· = g) w w'
set_option maxRecDepth 100000 in
theorem kturn_any {w : World} {g ro n : Nat} {o : Ho} {es : List Ent} (h : Kr w g o ro es) (hr : es.length ≤ kindN n) :
    Calls Tryz.prog 103 #[.pointer (some ⟨g, 0, none⟩), .int .i64 (kindN n : Int)] w fun e w' => e = .returned (.tuple #[]) ∧ TurnPost w w' g (kindN n) es := by
  have C := Lib.hid (kroom_any w n)
  have H := Lib.hid h
  generalize kindN n = rm at hr C ⊢
  have HR := Lib.hid hr
  clear h hr
  go_enter Tryz.func103, Tryz.ntmps103
  go_wp2_with fail
  (with_reducible refine C.out.mono ?_)
  rintro e w1 ⟨d, rfl, h1, h2, h3⟩
  have H1 := Lib.hid h1
  have HL := Lib.hid (show w.heap.size < w1.heap.size from Blk.lt h1.two)
  have HW := Lib.hid (kwhere_any (H.out.below h3))
  have HX := Lib.hid (kwhere_any h1)
  have HM := Lib.hid (kmove_any (B := w.heap.size + 1) (H.out.below h3).is h1.is (fun i hi => by have := H.out.lt (Or.inr hi); omega) (fun i hi => by have := h2 i hi; omega) HL.out HR.out)
  have HB := Lib.hid h3
  have H2 := Lib.hid h2
  clear h1 h2 h3 C
  go_wp2_with fail
  (with_reducible refine HW.out.mono ?_)
  rintro e w2 ⟨rfl, rfl⟩
  go_wp2_with fail
  (with_reducible refine HX.out.mono ?_)
  rintro e w3 ⟨rfl, rfl⟩
  go_wp2_with fail
  (with_reducible refine HM.out.mono ?_)
  rintro e w4 ⟨rfl, h1, h2⟩
  obtain ⟨d', q1, q2, q3, q4⟩ := h1
  have L4 : Lst w4 w.heap.size d.two := Blk.below H1.out.two h2 (by omega)
  have G4 : Lst w4 g o.two := Blk.below (Blk.below H.out.two HB.out H.out.lt0) h2 (by have := H.out.lt0; omega)
  have HP := Lib.hid (show ∀ x y, d.two = [x, y] → TurnPost w ((w4.setCell ⟨g, 0, none⟩ x).setCell ⟨g, 1, none⟩ y) g rm es from fun x y hxy => by
    have hg := H.out.lt0
    have hs2 := h2.size
    have hs1 := HB.out.size
    have k1 := Kept.set_ (D := (· = g)) w4 ⟨g, 0, none⟩ x rfl
    have k2 := Kept.set_ (D := (· = g)) (w4.setCell ⟨g, 0, none⟩ x) ⟨g, 1, none⟩ y rfl
    have two := Lst.set1 (Lst.set1 G4 0 x) 1 y
    have e2 : ∃ a b, o.two = [a, b] := by cases o <;> exact ⟨_, _, rfl⟩
    obtain ⟨a, b, hab⟩ := e2
    rw [hab] at two
    refine ⟨d', ⟨?_, q1.kept (k1.trans k2) (fun i hi e => ?_), fun e => ?_⟩, fun i hi => ?_, ?_⟩
    · rw [q3, hxy]; exact two
    · have := q4 i hi; omega
    · have := q4 g e; omega
    · have := q4 i hi; omega
    · exact (Kept.of_below (HB.out.trans (h2.mono (Nat.le_succ _)))).trans (k1.trans k2))
  obtain ⟨x, y, hxy⟩ : ∃ x y : Option Addr, d.two = [.pointer x, .pointer y] := by cases d <;> exact ⟨_, _, rfl⟩
  obtain ⟨a, b, hab⟩ : ∃ a b : Option Addr, o.two = [.pointer a, .pointer b] := by cases o <;> exact ⟨_, _, rfl⟩
  have P2 := Lib.hid (HP.out _ _ hxy)
  rw [hxy] at L4
  rw [hab] at G4
  have c0 : w4.cell? ⟨w.heap.size, 0, none⟩ = some (.pointer x) := by rw [Lst.at_ L4]; rfl
  have c1 : w4.cell? ⟨w.heap.size, 1, none⟩ = some (.pointer y) := by rw [Lst.at_ L4]; rfl
  have c2 : w4.cell? ⟨g, 0, none⟩ = some (.pointer a) := by rw [Lst.at_ G4]; rfl
  have c3 : w4.cell? ⟨g, 1, none⟩ = some (.pointer b) := by rw [Lst.at_ G4]; rfl
  have f0 : ∀ k, w4.frozen? ⟨g, k, none⟩ = false := fun k => Blk.fz G4 k
  clear HP q1 q2 q3 q4 h2 hxy hab L4 G4
  go_wp2
  go_end0
  exact ⟨rfl, P2.out⟩
end Go.Proofs.YtajpipaooaemdaaGreatDoor

namespace Go.Proofs.YtajpipaooaemdaaGreatDoor
open Go.RowKit

theorem kindN_more {n : Nat} (h : n < kindN n) : kindN (n + 1) = kindN n := by
  revert h
  unfold kindN
  repeat' split
  all_goals omega
/-- What Set and Drop leave: kids that hold es, of its kind; their blocks are those that they had, or new. -/
def KdPost (w w' : World) (g : Nat) (o : Ho) (es : List Ent) : Prop :=
  ∃ o' : Ho, Kr w' g o' (kindN es.length) es ∧ (∀ i, o'.D i → o.D i ∨ w.heap.size ≤ i) ∧ Kept (o.all g) w w'
section
variable {w w' : World} {g room : Nat} {o : Ho} {es es' : List Ent}
theorem HoPost.kr (h : Kr w g o room es) (hp : HoPost w w' o room es') : ∃ o', Kr w' g o' room es' ∧ (∀ i, o'.D i → o.D i ∨ w.heap.size ≤ i) ∧ Kept o.D w w' := by
  obtain ⟨o', h1, _, h3, h4, h5⟩ := hp
  refine ⟨o', ⟨?_, h1, fun q => ?_⟩, h4, h5⟩
  · rw [h3]; exact h5.blk h.two h.ne
  · rcases h4 g q with q | q
    · exact h.ne q
    · have := h.lt0; omega
theorem HoPost.kd (h : Kr w g o room es) (hp : HoPost w w' o room es') (hr : room = kindN es'.length) : KdPost w w' g o es' := by
  obtain ⟨o', h1, h2, h3⟩ := hp.kr h
  exact ⟨o', hr ▸ h1, h2, h3.mono (fun i hi => .inr hi)⟩
/-- Turned behind what Set or Drop left. -/
theorem TurnPost.kd {w1 w2 : World} {es2 : List Ent} (k1 : Kept o.D w w1) (h2 : TurnPost w1 w2 g (kindN es2.length) es2) : KdPost w w2 g o es2 := by
  obtain ⟨d, q1, q2, q3⟩ := h2
  exact ⟨d, q1, fun i hi => .inr (Nat.le_trans k1.size (q2 i hi)), (k1.mono (fun i hi => .inr hi)).trans (q3.mono (fun i hi => .inl hi))⟩

set_option maxRecDepth 100000 in
theorem kset_room (h : Kr w g o (kindN es.length) es) (b : UInt8) (x : Th) (hb : ¬ (hasE es b.toNat = false ∧ es.length = kindN es.length)) : Calls Tryz.prog 92 #[.pointer (some ⟨g, 0, none⟩), .int .u8 (b.toNat : Int), ev x] w fun e w' =>
    e = .returned (.int .i64 0) ∧ KdPost w w' g o (setE es b x) := by
  have hl := h.is.few.1
  have C := Lib.hid (kwhere_any h)
  have S := Lib.hid (hset_any h.is b x _ rfl)
  rw [setN, if_neg hb, setR, if_neg hb] at S
  have HP := Lib.hid (fun (w' : World) (q : HoPost w w' o (kindN es.length) (setE es b x)) => show KdPost w w' g o (setE es b x) from q.kd h (by
    rw [set_length]
    cases hh : hasE es b.toNat with
    | true => simp
    | false =>
      have : es.length < kindN es.length := by rcases Nat.lt_or_eq_of_le hl with q | q; exact q; exact absurd ⟨hh, q⟩ hb
      simpa using (kindN_more this).symm))
  have F := o.mSet (some ⟨o.at_, 0, none⟩)
  have E := o.cSet
  rw [o.face_is] at C
  generalize o.T = T at F C
  generalize o.fSet = f at F E S
  generalize o.at_ = a at F C S
  generalize setE es b x = es' at S HP ⊢
  clear h hb hl
  go_enter Tryz.func92, Tryz.ntmps92
  go_wp2_with fail
  (with_reducible refine C.out.mono ?_)
  rintro e w1 ⟨rfl, rfl⟩
  go_wp2_with fail
  (with_reducible refine S.out.mono ?_)
  rintro e w2 ⟨rfl, hp⟩
  have P := Lib.hid (HP.out _ hp)
  clear hp
  go_wp2
  go_ret
  exact ⟨rfl, P.out⟩

set_option maxRecDepth 100000 in
set_option maxHeartbeats 1000000 in
theorem kset_full (h : Kr w g o (kindN es.length) es) (b : UInt8) (x : Th) (hb : hasE es b.toNat = false) (hf : es.length = kindN es.length) : Calls Tryz.prog 92 #[.pointer (some ⟨g, 0, none⟩), .int .u8 (b.toNat : Int), ev x] w fun e w' =>
    e = .returned (.int .i64 0) ∧ KdPost w w' g o (setE es b x) := by
  have hu := h.is.up
  have h256 : es.length + 1 ≤ 256 := by
    have q := pos256 (set_up hu b x)
    rw [pos_all, set_length, hb] at q
    simpa using q
  have C := Lib.hid (kwhere_any h)
  have S := Lib.hid (hset_any h.is b x _ rfl)
  rw [setN, if_pos ⟨hb, hf⟩, setR, if_pos ⟨hb, hf⟩] at S
  have H := Lib.hid h
  have hl1 : (setE es b x).length = es.length + 1 := by rw [set_length, hb]; simp
  have HK := Lib.hid (show kindZ ((es.length : Int) + 1) = (kindN (es.length + 1) : Int) from by rw [← kindZ_nat h256]; rfl)
  have HL := Lib.hid (show es.length ≤ kindN (es.length + 1) from by have := kindN_le h256; omega)
  have HS2 := Lib.hid (fun (d : Ho) (W : World) (hd : d.Is W (kindN (es.length + 1)) es) => show Calls Tryz.prog d.fSet #[.pointer (some ⟨d.at_, 0, none⟩), .int .u8 (b.toNat : Int), ev x] W fun e w' => e = .returned (.int .i64 0) ∧ HoPost W w' d (kindN (es.length + 1)) (setE es b x) from by
    have q := hset_any hd b x _ rfl
    have hne : ¬ (hasE es b.toNat = false ∧ es.length = kindN (es.length + 1)) := by rintro ⟨_, q⟩; have := kindN_le h256; omega
    rw [setN, if_neg hne, setR, if_neg hne] at q
    exact q)
  have HP := Lib.hid (fun (w1 w2 w3 : World) (o1 : Ho) (q1 : Kept o.D w w1) (d : Ho) (r1 : Kr w2 g d (kindN (es.length + 1)) es) (r2 : ∀ i, d.D i → w1.heap.size ≤ i) (r3 : Kept (· = g) w1 w2) (q3 : HoPost w2 w3 d (kindN (es.length + 1)) (setE es b x)) => show KdPost w w3 g o (setE es b x) from by
    obtain ⟨d', s1, s2, s3⟩ := q3.kr r1
    refine ⟨d', by rw [hl1]; exact s1, fun i hi => .inr ?_, ?_⟩
    · have := q1.size
      have := r3.size
      rcases s2 i hi with q | q
      · have := r2 i q; omega
      · omega
    · refine ((q1.mono (D' := o.all g) (fun i hi => .inr hi)).trans (r3.mono (fun i hi => .inl hi))).trans' s3 (fun i hi hd => ?_)
      have := r2 i hd
      have := q1.size
      omega)
  have F := o.mSet (some ⟨o.at_, 0, none⟩)
  have E := o.cSet
  rw [o.face_is] at C
  generalize o.T = T at F C
  generalize o.fSet = f at F E S
  generalize o.at_ = a at F C S
  generalize setE es b x = es' at HS2 HP ⊢
  have h256' : (es.length : Int) + 1 ≤ 256 := by omega
  have h0 : (0 : Int) ≤ (es.length : Int) := by omega
  have ew : IntKind.i64.wrap ((es.length : Int) + 1) = (es.length : Int) + 1 := by rw [IntKind.wrap_i64]; omega
  clear h hb hf hu hl1 h256
  go_enter Tryz.func92, Tryz.ntmps92
  go_wp2_with fail
  (with_reducible refine C.out.mono ?_)
  rintro e w1 ⟨rfl, rfl⟩
  go_wp2_with fail
  (with_reducible refine S.out.mono ?_)
  rintro e w2 ⟨rfl, hp⟩
  obtain ⟨o1, p1, p2, p3⟩ := hp.kr H.out
  have P1 := Lib.hid p1
  have P3 := Lib.hid p3
  clear hp p1 p2 p3 F E
  go_wp2_with fail
  (with_reducible refine (klen_any P1.out).mono ?_)
  rintro e w3 ⟨rfl, n3, rfl⟩
  go_wp2_with fail
  (with_reducible refine (kindof_any _ _).mono ?_)
  rintro e w4 ⟨rfl, rfl⟩
  rw [HK.out]
  go_wp2_with fail
  (with_reducible refine (kturn_any (P1.out.drewN n3) HL.out).mono ?_)
  rintro e w5 ⟨rfl, d, r1, r2, r3⟩
  have R1 := Lib.hid r1
  have R2 := Lib.hid r2
  have R3 := Lib.hid r3
  have C5 := Lib.hid (kwhere_any r1)
  have S5 := Lib.hid (HS2.out d w5 r1.is)
  have F := d.mSet (some ⟨d.at_, 0, none⟩)
  have E := d.cSet
  rw [d.face_is] at C5
  generalize d.T = Td at F C5
  generalize d.fSet = fd at F E S5
  generalize d.at_ = ad at F C5 S5
  clear r1 r2 r3
  go_wp2_with fail
  (with_reducible refine C5.out.mono ?_)
  rintro e w6 ⟨rfl, rfl⟩
  go_wp2_with fail
  (with_reducible refine S5.out.mono ?_)
  rintro e w7 ⟨rfl, hp⟩
  have P := Lib.hid (HP.out _ _ _ o1 (P3.out.drewN n3) d R1.out R2.out R3.out hp)
  clear hp
  go_wp2
  go_ret
  exact ⟨rfl, P.out⟩
set_option maxRecDepth 100000 in
theorem kset_any (h : Kr w g o (kindN es.length) es) (b : UInt8) (x : Th) (z : Int) (hz : z = (b.toNat : Int)) : Calls Tryz.prog 92 #[.pointer (some ⟨g, 0, none⟩), .int .u8 z, ev x] w fun e w' =>
    e = .returned (.int .i64 0) ∧ KdPost w w' g o (setE es b x) := by
  subst hz
  by_cases hb : hasE es b.toNat = false ∧ es.length = kindN es.length
  · exact kset_full h b x hb.1 hb.2
  · exact kset_room h b x hb
end
end Go.Proofs.YtajpipaooaemdaaGreatDoor

namespace Go.Proofs.YtajpipaooaemdaaGreatDoor
open Go.RowKit

section
variable {w : World} {g : Nat} {o : Ho} {es : List Ent}
end
end Go.Proofs.YtajpipaooaemdaaGreatDoor

namespace Go.Proofs.YtajpipaooaemdaaGreatDoor
open Go.RowKit

/-- What Copy leaves: other kids of the same, all their blocks new. -/
def KcPost (w : World) (room : Nat) (es : List Ent) (e : Ending) (w' : World) : Prop :=
  ∃ (g' : Nat) (o' : Ho), e = .returned (.pointer (some ⟨g', 0, none⟩)) ∧ Kr w' g' o' room es ∧ (∀ i, o'.all g' i → w.heap.size ≤ i) ∧ Below w.heap.size w w'
theorem KcPost.of {w w1 : World} {room : Nat} {es : List Ent} {o' : Ho} (h : o'.Is w1 room es) (hn : ∀ i, o'.D i → w.heap.size ≤ i) (hb : Below w.heap.size w w1) :
    KcPost w room es (.returned (.pointer (some ⟨w1.heap.size, 0, none⟩))) (w1.alloc (.cells o'.two.toArray 142)) := by
  have b2 : Below w1.heap.size w1 (w1.alloc (.cells o'.two.toArray 142)) := (Below.refl _ _).alloc (Nat.le_refl _) _
  refine ⟨w1.heap.size, o', rfl, ⟨Blk.new w1 _ _, h.below b2, fun q => ?_⟩, fun i hi => ?_, hb.trans (b2.mono hb.size)⟩
  · have := h.lt q; omega
  · rcases hi with rfl | hi
    · exact hb.size
    · exact hn i hi
set_option maxRecDepth 100000 in
theorem wcopy_two {w : World} {g room : Nat} {es : List Ent} {v : Value} (h : (room = 48 ∨ room = 256) ∧ ∃ u, Bd w g v room es u) : Calls Tryz.prog 95 #[.pointer (some ⟨g, 0, none⟩)] w fun e w' =>
    ∃ v' u, e = .returned (.pointer (some ⟨w.heap.size, 0, none⟩)) ∧ Bd w' w.heap.size v' room es u ∧ Below w.heap.size w w' ∧ ∀ i, v'.ownBlock = some i → w.heap.size < i := by
  obtain ⟨hr, u, h⟩ := h
  refine (wcopy_any h (by omega)).mono ?_
  rintro e w' ⟨v', q1, q2, q3, q4⟩
  exact ⟨v', u, q1, q2, q3, q4⟩
section
variable {w : World} {g room : Nat} {es : List Ent}
set_option maxRecDepth 100000 in
set_option maxHeartbeats 1000000 in
theorem kcopy_row {r t : Nat} (h : Kr w g (.row r t) room es) : Calls Tryz.prog 74 #[.pointer (some ⟨g, 0, none⟩)] w fun e w' => KcPost w room es e w' := by
  have h0 : w.cell? ⟨g, 0, none⟩ = some (.pointer (some ⟨r, 0, none⟩)) := by rw [Lst.at_ h.two]; rfl
  have h1 : w.cell? ⟨g, 1, none⟩ = some (.pointer none) := by rw [Lst.at_ h.two]; rfl
  have KP := Lib.hid (fun (W : World) (hb : Below w.heap.size w W) => show W.cell? ⟨g, 0, none⟩ = some (.pointer (some ⟨r, 0, none⟩)) ∧ W.cell? ⟨g, 1, none⟩ = some (.pointer none) from ⟨by rw [Lst.at_ (h.below hb).two]; rfl, by rw [Lst.at_ (h.below hb).two]; rfl⟩)
  have HS := Lib.hid (fun (W : World) (hb : Below w.heap.size w W) => show Sm W r t room es from (h.below hb).is)
  have HP := Lib.hid (fun (W w1 : World) (hb : Below w.heap.size w W) (q1 : Sm w1 W.heap.size (W.heap.size + 1) room es) (q2 : Below W.heap.size W w1) => show KcPost w room es (.returned (.pointer (some ⟨w1.heap.size, 0, none⟩))) (w1.alloc (.cells #[.pointer (some ⟨W.heap.size, 0, none⟩), .pointer none] 142)) from
    KcPost.of (o' := .row W.heap.size (W.heap.size + 1)) q1 (fun i hi => by have := hb.size; rcases hi with q | q <;> omega) (hb.trans (q2.mono hb.size)))
  clear h
  go_enter Tryz.func74, Tryz.ntmps74
  go_wp2_with fail
  go_region_held3 (fun w' => w'.cell? ⟨g, 0, none⟩ = some (.pointer (some ⟨r, 0, none⟩)) ∧ w'.cell? ⟨g, 1, none⟩ = some (.pointer none))
    (first
    | exact KP.out _ hb1
    | exact KP.out _ (hb1.alloc hb1.size _)
    | exact KP.out _ (Below.refl _ _).drew
    | exact KP.out _ (Below.refl _ _))
    (first
    | (go_at_call 94; (with_reducible refine (scopy_any (HS.out _ (Below.refl _ _).drew)).mono ?_); rintro e v1 ⟨rfl, s1, c1⟩; have hb1 := (Below.refl _ _).drew.trans c1)
    | (go_at_call 94; (with_reducible refine (scopy_any (HS.out _ (Below.refl _ _))).mono ?_); rintro e v1 ⟨rfl, s1, c1⟩; have hb1 := (Below.refl _ _).trans c1)
    | (go_at_call 95; (with_reducible refine (wcopy_nil _).mono ?_); rintro e v2 ⟨rfl, rfl⟩))
  all_goals
    have P := Lib.hid (show KcPost w room es (.returned (.pointer (some ⟨v2.heap.size, 0, none⟩))) (v2.alloc (.cells #[.pointer (some ⟨w.heap.size, 0, none⟩), .pointer none] 142)) from by
      first
      | exact HP.out w.drew _ (Below.refl _ _).drew s1 c1
      | exact HP.out w _ (Below.refl _ _) s1 c1)
    clear HP s1 c1
    go_wp2
    go_ret
    exact P.out
set_option maxRecDepth 100000 in
set_option maxHeartbeats 1000000 in
theorem kcopy_board {r : Nat} {v : Value} (h : Kr w g (.board r v) room es) : Calls Tryz.prog 74 #[.pointer (some ⟨g, 0, none⟩)] w fun e w' => KcPost w room es e w' := by
  have h0 : w.cell? ⟨g, 0, none⟩ = some (.pointer none) := by rw [Lst.at_ h.two]; rfl
  have h1 : w.cell? ⟨g, 1, none⟩ = some (.pointer (some ⟨r, 0, none⟩)) := by rw [Lst.at_ h.two]; rfl
  have hR := h.is.1
  have KP := Lib.hid (fun (W : World) (hb : Below w.heap.size w W) => show W.cell? ⟨g, 0, none⟩ = some (.pointer none) ∧ W.cell? ⟨g, 1, none⟩ = some (.pointer (some ⟨r, 0, none⟩)) from ⟨by rw [Lst.at_ (h.below hb).two]; rfl, by rw [Lst.at_ (h.below hb).two]; rfl⟩)
  have HS := Lib.hid (fun (W : World) (hb : Below w.heap.size w W) => show (room = 48 ∨ room = 256) ∧ ∃ u, Bd W r v room es u from (h.below hb).is)
  have HP := Lib.hid (fun (W w1 : World) (hb : Below w.heap.size w W) (v' : Value) (u : Nat) (q1 : Bd w1 W.heap.size v' room es u) (q2 : Below W.heap.size W w1) (q3 : ∀ i, v'.ownBlock = some i → W.heap.size < i) => show KcPost w room es (.returned (.pointer (some ⟨w1.heap.size, 0, none⟩))) (w1.alloc (.cells #[.pointer none, .pointer (some ⟨W.heap.size, 0, none⟩)] 142)) from
    KcPost.of (o' := .board W.heap.size v') ⟨hR, u, q1⟩ (fun i hi => by
      have := hb.size
      rcases hi with q | q
      · omega
      · have := q3 i q; omega) (hb.trans (q2.mono hb.size)))
  clear h
  go_enter Tryz.func74, Tryz.ntmps74
  go_wp2_with fail
  go_region_held3 (fun w' => w'.cell? ⟨g, 0, none⟩ = some (.pointer none) ∧ w'.cell? ⟨g, 1, none⟩ = some (.pointer (some ⟨r, 0, none⟩)))
    (first
    | exact KP.out _ hb1
    | exact KP.out _ (hb1.alloc hb1.size _)
    | exact KP.out _ (Below.refl _ _).drew
    | exact KP.out _ (Below.refl _ _))
    (first
    | (go_at_call 95; (with_reducible refine (wcopy_two (HS.out _ (Below.refl _ _).drew)).mono ?_); rintro e v1 ⟨v', u', rfl, s1, c1, c2⟩; have hb1 := (Below.refl _ _).drew.trans c1)
    | (go_at_call 95; (with_reducible refine (wcopy_two (HS.out _ (Below.refl _ _))).mono ?_); rintro e v1 ⟨v', u', rfl, s1, c1, c2⟩; have hb1 := (Below.refl _ _).trans c1)
    | (go_at_call 94; (with_reducible refine (scopy_nil _).mono ?_); rintro e v2 ⟨rfl, rfl⟩))
  all_goals
    have P := Lib.hid (show KcPost w room es (.returned (.pointer (some ⟨v1.heap.size, 0, none⟩))) (v1.alloc (.cells #[.pointer none, .pointer (some ⟨w.heap.size, 0, none⟩)] 142)) from by
      first
      | exact HP.out w.drew _ (Below.refl _ _).drew _ _ s1 c1 c2
      | exact HP.out w _ (Below.refl _ _) _ _ s1 c1 c2)
    clear HP s1 c1 c2
    go_wp2
    go_ret
    exact P.out
set_option maxRecDepth 100000 in
theorem kcopy_any {o : Ho} (h : Kr w g o room es) : Calls Tryz.prog 74 #[.pointer (some ⟨g, 0, none⟩)] w fun e w' => KcPost w room es e w' := by
  cases o with
  | row r t => exact kcopy_row h
  | board r v => exact kcopy_board h
end

/-- Nobody's kids: what is asked of them, a row that is not there answers. -/
def NoK (p : Value) (w : World) : Prop := Calls Tryz.prog 76 #[p] w fun e w' => e = .returned (.iface 139 (.pointer none)) ∧ w' = w
set_option maxRecDepth 100000 in
theorem NoK.nil (w : World) : NoK (.pointer none) w := by
  unfold NoK
  go_enter Tryz.func76, Tryz.ntmps76
  go_wp2
  go_ret
  exact ⟨rfl, rfl⟩
set_option maxRecDepth 100000 in
theorem NoK.zero {w : World} {g : Nat} (h : Lst w g [.pointer none, .pointer none]) : NoK (.pointer (some ⟨g, 0, none⟩)) w := by
  have h0 : w.cell? ⟨g, 0, none⟩ = some (.pointer none) := by rw [Lst.at_ h]; rfl
  have h1 : w.cell? ⟨g, 1, none⟩ = some (.pointer none) := by rw [Lst.at_ h]; rfl
  clear h
  unfold NoK
  go_enter Tryz.func76, Tryz.ntmps76
  go_wp2
  go_ret
  exact ⟨rfl, rfl⟩
section
variable {w : World} {p : Value}
set_option maxRecDepth 100000 in
theorem kget_no (h : NoK p w) (b : Int) : Calls Tryz.prog 73 #[p, .int .u8 b] w fun e w' => e = .returned (.tuple #[.pointer none, .bool false]) ∧ w' = w := by
  have C := Lib.hid h
  have M := Lib.hid (show Calls Tryz.prog 135 #[.pointer none, .int .u8 b] w fun e w' => e = .returned (.tuple #[.pointer none, .bool false]) ∧ w' = w from sget_nil _ b)
  have F := m_row_Get none
  clear h
  unfold NoK at C
  go_enter Tryz.func73, Tryz.ntmps73
  go_wp2_with fail
  (with_reducible refine C.out.mono ?_)
  rintro e w1 ⟨rfl, rfl⟩
  go_wp2_with fail
  (with_reducible refine M.out.mono ?_)
  rintro e w2 ⟨rfl, rfl⟩
  go_wp2
  go_ret2
  exact ⟨rfl, rfl⟩
set_option maxRecDepth 100000 in
theorem knext_no (h : NoK p w) (a : Int) : Calls Tryz.prog 65 #[p, .int .i64 a] w fun e w' => e = .returned (.tuple #[.int .u8 0, .pointer none, .bool false]) ∧ w' = w := by
  have C := Lib.hid h
  have M := Lib.hid (show Calls Tryz.prog 137 #[.pointer none, .int .i64 a] w fun e w' => e = .returned (.tuple #[.int .u8 0, .pointer none, .bool false]) ∧ w' = w from snext_nil _ a)
  have F := m_row_Next none
  clear h
  unfold NoK at C
  go_enter Tryz.func65, Tryz.ntmps65
  go_wp2_with fail
  (with_reducible refine C.out.mono ?_)
  rintro e w1 ⟨rfl, rfl⟩
  go_wp2_with fail
  (with_reducible refine M.out.mono ?_)
  rintro e w2 ⟨rfl, rfl⟩
  go_wp2
  go_ret3
  exact ⟨rfl, rfl⟩
set_option maxRecDepth 100000 in
theorem kcopy_nil (w : World) : Calls Tryz.prog 74 #[.pointer none] w fun e w' => e = .returned (.pointer none) ∧ w' = w := by
  go_enter Tryz.func74, Tryz.ntmps74
  go_wp2
  go_ret
  exact ⟨rfl, rfl⟩
end
end Go.Proofs.YtajpipaooaemdaaGreatDoor

namespace Go.Proofs.YtajpipaooaemdaaGreatDoor
open Go.RowKit

/-- Kids in blocks from B on, what stands for them not in N. -/
def KOwn (B : Nat) (N : Nat → Prop) (w : World) (g : Nat) (es : List Ent) : Prop := ∃ o, Kr w g o (kindN es.length) es ∧ ∀ i, o.D i → B ≤ i ∧ ¬ N i
section
variable {w w' : World} {g B : Nat} {es es' : List Ent} {N N' : Nat → Prop}
theorem KOwn.kept (h : KOwn B N w g es) {D : Nat → Prop} (hk : Kept D w w') (hg : ¬ D g) (hD : ∀ i, D i → i < B ∨ N i) : KOwn B N w' g es := by
  obtain ⟨o, h1, h2⟩ := h
  refine ⟨o, h1.kept hk (fun i hi => ?_), h2⟩
  rcases hi with rfl | hi
  · exact hg
  · intro q
    have := h2 i hi
    rcases hD i q with q | q
    · omega
    · exact this.2 q
theorem KOwn.below (h : KOwn B N w g es) (hk : Below w.heap.size w w') : KOwn B N w' g es := h.kept (D := fun _ => False) (Kept.of_below hk) (fun q => q) (fun _ q => q.elim)
theorem KOwn.still (h : KOwn B N w g es) (hs : Still w w') : KOwn B N w' g es := by
  obtain ⟨o, h1, h2⟩ := h; exact ⟨o, h1.still hs, h2⟩
theorem KOwn.drewN (h : KOwn B N w g es) (n : Nat) : KOwn B N (w.drewN n) g es := h.still ⟨n, rfl⟩
/-- One block more that is none of theirs, since it is new. -/
theorem KOwn.more (h : KOwn B N w g es) {k : Nat} (hk : w.heap.size ≤ k) : KOwn B (fun i => N i ∨ i = k) w g es := by
  obtain ⟨o, h1, h2⟩ := h
  refine ⟨o, h1, fun i hi => ⟨(h2 i hi).1, fun q => ?_⟩⟩
  rcases q with q | q
  · exact (h2 i hi).2 q
  · have := h1.lt (.inr hi); omega
theorem KOwn.up (h : KOwn B N w g es) : Up es := by obtain ⟨o, h1, _⟩ := h; exact h1.is.up
theorem KOwn.lt (h : KOwn B N w g es) : g < w.heap.size := by obtain ⟨o, h1, _⟩ := h; exact h1.lt0
theorem KOwn.few (h : KOwn B N w g es) : es.length ≤ 256 := by obtain ⟨o, h1, _⟩ := h; have := h1.is.few; omega
set_option maxRecDepth 100000 in
/-- What is done with them: what is below B, and what is in N, stays. -/
theorem KOwn.call (h : KOwn B N w g es) (hB : B ≤ w.heap.size) (hN : ∀ i, N i → i < w.heap.size) {f : FuncId} {args : Array Value} {n : Int}
    (hc : ∀ o, Kr w g o (kindN es.length) es → Calls Tryz.prog f args w fun e w' => e = .returned (.int .i64 n) ∧ KdPost w w' g o es') :
    Calls Tryz.prog f args w fun e w' => e = .returned (.int .i64 n) ∧ KOwn B N w' g es' ∧ Kept (fun i => i = g ∨ B ≤ i ∧ ¬ N i) w w' := by
  obtain ⟨o, h1, h2⟩ := h
  refine (hc o h1).mono ?_
  rintro e w' ⟨rfl, o', k1, k2, k3⟩
  refine ⟨rfl, ⟨o', k1, fun i hi => ?_⟩, k3.mono (fun i q => ?_)⟩
  · rcases k2 i hi with q | q
    · exact h2 i q
    · exact ⟨by omega, fun q' => by have := hN i q'; omega⟩
  · rcases q with q | q
    · exact .inl q
    · exact .inr (h2 i q)
set_option maxRecDepth 100000 in
theorem KOwn.set_ (h : KOwn B N w g es) (hB : B ≤ w.heap.size) (hN : ∀ i, N i → i < w.heap.size) (b : UInt8) (x : Th) (z : Int) (hz : z = (b.toNat : Int)) :
    Calls Tryz.prog 92 #[.pointer (some ⟨g, 0, none⟩), .int .u8 z, .pointer x] w fun e w' => e = .returned (.int .i64 0) ∧ KOwn B N w' g (setE es b x) ∧ Kept (fun i => i = g ∨ B ≤ i ∧ ¬ N i) w w' :=
  h.call hB hN (fun _ hk => kset_any hk b x z hz)
set_option maxRecDepth 100000 in
theorem KOwn.get_ (h : KOwn B N w g es) (b : UInt8) (z : Int) (hz : z = (b.toNat : Int)) : Calls Tryz.prog 73 #[.pointer (some ⟨g, 0, none⟩), .int .u8 z] w fun e w' => e = .returned (.tuple #[.pointer (getE es b.toNat), .bool (hasE es b.toNat)]) ∧ Still w w' := by
  obtain ⟨o, h1, _⟩ := h; subst hz; exact kget_any h1 b
set_option maxRecDepth 100000 in
theorem KOwn.next_ (h : KOwn B N w g es) (a : Int) (ha : -9223372036854775808 ≤ a) : Calls Tryz.prog 65 #[.pointer (some ⟨g, 0, none⟩), .int .i64 a] w fun e w' => e = .returned (entV (nextE es a)) ∧ Still w w' := by
  obtain ⟨o, h1, _⟩ := h; exact knext_any h1 a ha
set_option maxRecDepth 100000 in
theorem KOwn.kind_ (h : KOwn B N w g es) : Calls Tryz.prog 55 #[.pointer (some ⟨g, 0, none⟩)] w fun e w' => e = .returned (.int .i64 (kindN es.length : Int)) ∧ Still w w' := by
  obtain ⟨o, h1, _⟩ := h; exact kkind_any h1
set_option maxRecDepth 100000 in
/-- Other ones with the same, all new. -/
theorem KOwn.copy_ (h : KOwn B N w g es) : Calls Tryz.prog 74 #[.pointer (some ⟨g, 0, none⟩)] w fun e w' =>
    ∃ g', e = .returned (.pointer (some ⟨g', 0, none⟩)) ∧ w.heap.size ≤ g' ∧ KOwn w.heap.size (fun _ => False) w' g' es ∧ Below w.heap.size w w' := by
  obtain ⟨o, h1, _⟩ := h
  refine (kcopy_any h1).mono ?_
  rintro e w' ⟨g', o', rfl, k1, k2, k3⟩
  exact ⟨g', rfl, k2 g' (.inl rfl), ⟨o', k1, fun i hi => ⟨k2 i (.inr hi), fun q => q⟩⟩, k3⟩
end
set_option maxRecDepth 100000 in
/-- New kids. -/
theorem KOwn.new (w : World) : Calls Tryz.prog 88 #[] w fun e w' => e = .returned (.pointer (some ⟨w.heap.size, 0, none⟩)) ∧ KOwn w.heap.size (fun _ => False) w' w.heap.size [] ∧ Below w.heap.size w w' := by
  refine (knew_any w).mono ?_
  rintro e w' ⟨o, rfl, h1, h2, h3⟩
  exact ⟨rfl, ⟨o, h1, fun i hi => ⟨Nat.le_of_lt (h2 i hi), fun q => q⟩⟩, h3⟩
end Go.Proofs.YtajpipaooaemdaaGreatDoor
