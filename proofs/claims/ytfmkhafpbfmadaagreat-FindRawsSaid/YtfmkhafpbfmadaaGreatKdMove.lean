/-
  Package kids: what is done with a row or a board, in one word; all that one holds is put into another one.
-/
import Derived.Test.YtfmkhafpbfmadaaGreatKdRead
namespace Go.Proofs.YtfmkhafpbfmadaaGreat
open Go.RowKit

/-- The k first and the one behind them. -/
theorem take_set {es : List Ent} (h : Up es) {k : Nat} {e : Ent} (he : es[k]? = some e) : hasE (es.take k) e.1.toNat = false ∧ setE (es.take k) e.1 e.2 = es.take (k + 1) := by
  have hk : k < es.length := (List.getElem?_eq_some_iff.1 he).1
  have hu : Up (es.take k) := h.sublist (List.take_sublist _ _)
  have hl : (es.take k).length = k := by rw [List.length_take]; omega
  have hlt : ∀ (t : Nat) (a : Ent), (es.take k)[t]? = some a → a.1.toNat < e.1.toNat := fun t a ha => by
    rw [List.getElem?_take] at ha
    split at ha
    · exact h.at_ (by assumption) ha he
    · cases ha
  have hn : hasE (es.take k) e.1.toNat = false := by
    cases q : hasE (es.take k) e.1.toNat with
    | false => rfl
    | true =>
      obtain ⟨a, ha, hb⟩ := (has_mem hu).1 q
      obtain ⟨t, ht⟩ := List.mem_iff_getElem?.1 ha
      have := hlt t a ht; omega
  have hp : pos (es.take k) e.1.toNat = k := by
    refine pos_of (by omega) (fun t a _ ha => hlt t a ha) (fun t a ht ha => ?_)
    have := (List.getElem?_eq_some_iff.1 ha).1
    omega
  refine ⟨hn, ?_⟩
  unfold setE
  rw [if_neg (by rw [hn]; simp), hp, List.take_of_length_le (by omega), List.drop_eq_nil_of_le (by omega)]
  rw [List.take_add_one, he]
  rfl
theorem next_up (es : List Ent) (h : Up es) {k : Nat} (hk : k ≤ es.length) : nextE es (upA es k : Int) = es[k]? := by
  by_cases q : upA es k ≤ 255
  · exact next_upA h hk q
  · have := upA_end h hk (by omega)
    unfold nextE
    rw [if_pos (by omega), this, List.getElem?_eq_none (Nat.le_refl _)]

/-- It, as either; its methods. -/
def Ho.T : Ho → TypeId
  | .row _ _ => 118
  | .board _ _ => 119
def Ho.fSet : Ho → FuncId
  | .row _ _ => 116
  | .board _ _ => 134
def Ho.fNext : Ho → FuncId
  | .row _ _ => 113
  | .board _ _ => 131
def Ho.at_ : Ho → Nat
  | .row r _ => r
  | .board r _ => r
theorem Ho.face_is (o : Ho) : o.face = .iface o.T (.pointer (some ⟨o.at_, 0, none⟩)) := by cases o <;> rfl
set_option maxRecDepth 100000 in
theorem Ho.mSet (o : Ho) (a : Option Addr) (w : World) : (method 271 o.T (.pointer a) "Set").run Tryz.prog w = .ok (o.fSet, .pointer a) w := by
  cases o
  · exact m_row_Set a w
  · exact m_board_Set a w
set_option maxRecDepth 100000 in
theorem Ho.mNext (o : Ho) (a : Option Addr) (w : World) : (method 271 o.T (.pointer a) "Next").run Tryz.prog w = .ok (o.fNext, .pointer a) w := by
  cases o
  · exact m_row_Next a w
  · exact m_board_Next a w

set_option maxRecDepth 100000 in
theorem Ho.cSet (o : Ho) (xs : Array Value) (w : World) : (callFunc o.fSet xs).run Tryz.prog w = .ok (.enter o.fSet xs) w := by
  cases o
  · exact Tryz.call116 xs w
  · exact Tryz.call134 xs w
set_option maxRecDepth 100000 in
theorem Ho.cNext (o : Ho) (xs : Array Value) (w : World) : (callFunc o.fNext xs).run Tryz.prog w = .ok (.enter o.fNext xs) w := by
  cases o
  · exact Tryz.call113 xs w
  · exact Tryz.call131 xs w

/-- What Set and Drop leave: the same one, that holds es; its blocks are those that it had, or new. -/
def HoPost (w w' : World) (o : Ho) (room : Nat) (es : List Ent) : Prop :=
  ∃ o' : Ho, o'.Is w' room es ∧ o'.face = o.face ∧ o'.two = o.two ∧ (∀ i, o'.D i → o.D i ∨ w.heap.size ≤ i) ∧ Kept o.D w w'
section
variable {w : World} {o : Ho} {room : Nat} {es : List Ent}
set_option maxRecDepth 100000 in
theorem hset_any (h : o.Is w room es) (b : UInt8) (x : Th) (z : Int) (hz : z = (b.toNat : Int)) : Calls Tryz.prog o.fSet #[.pointer (some ⟨o.at_, 0, none⟩), .int .u8 z, ev x] w fun e w' =>
    e = .returned (.int .i64 (setN room es b)) ∧ HoPost w w' o room (setR room es b x) := by
  cases o with
  | row r t =>
    refine (sset_any h b x z hz).mono ?_
    rintro e w' ⟨rfl, h1, h2⟩
    exact ⟨rfl, .row r t, h1, rfl, rfl, fun i hi => .inl hi, h2⟩
  | board r v =>
    obtain ⟨hr, u, h⟩ := h
    refine (wset_any h (by omega) b x z hz).mono ?_
    rintro e w' ⟨rfl, v', u', h1, h2, h3, _⟩
    refine ⟨rfl, .board r v', ⟨hr, u', h1⟩, rfl, rfl, fun i hi => ?_, h2⟩
    rcases hi with rfl | hi
    · exact .inl (.inl rfl)
    · rcases h3 i hi with q | q
      · exact .inl (.inr q)
      · exact .inr q
set_option maxRecDepth 100000 in
theorem hnext_any (h : o.Is w room es) (a : Int) (ha : -9223372036854775808 ≤ a) : Calls Tryz.prog o.fNext #[.pointer (some ⟨o.at_, 0, none⟩), .int .i64 a] w fun e w' => e = .returned (entV (nextE es a)) ∧ Still w w' := by
  cases o with
  | row r t => exact snext_any (Sm.rd h) a ha
  | board r v => obtain ⟨hr, u, h⟩ := h; exact wnext_any h a ha
end

theorem Kept.of_below' {B : Nat} {w w' : World} (h : Below B w w') : Kept (fun i => B ≤ i) w w' := ⟨h.os, h.tape, h.output, h.size, fun k _ hd => h.block k (Nat.lt_of_not_le hd)⟩
/-- One that holds es, in blocks from B on; with the face and the cells that it had. -/
def HoIn (B : Nat) (f : Value) (l : List Value) (room : Nat) (w : World) (es : List Ent) : Prop :=
  ∃ o : Ho, o.Is w room es ∧ o.face = f ∧ o.two = l ∧ ∀ i, o.D i → B ≤ i
theorem face_at {o o' : Ho} (h : o.face = o'.face) : o.T = o'.T ∧ o.at_ = o'.at_ ∧ o.fSet = o'.fSet := by
  cases o <;> cases o' <;> simp_all [Ho.face, Ho.T, Ho.at_, Ho.fSet]
set_option maxRecDepth 100000 in
theorem HoIn.set_ {B : Nat} {o0 : Ho} {l : List Value} {room : Nat} {w : World} {es : List Ent} (h : HoIn B o0.face l room w es) (hB : B ≤ w.heap.size) (b : UInt8) (x : Th) :
    ∃ n, Calls Tryz.prog o0.fSet #[.pointer (some ⟨o0.at_, 0, none⟩), .int .u8 (b.toNat : Int), ev x] w fun e w' => e = .returned (.int .i64 n) ∧ HoIn B o0.face l room w' (setR room es b x) ∧ Below B w w' := by
  obtain ⟨o, h1, h2, h3, h4⟩ := h
  obtain ⟨_, e2, e3⟩ := face_at h2
  refine ⟨setN room es b, ?_⟩
  rw [← e2, ← e3]
  refine (hset_any h1 b x _ rfl).mono ?_
  rintro e w' ⟨rfl, o', k1, k2, k3, k4, k5⟩
  refine ⟨rfl, ⟨o', k1, k2.trans h2, k3.trans h3, fun i hi => ?_⟩, k5.below hB (fun i hi => h4 i hi)⟩
  rcases k4 i hi with q | q
  · exact h4 i q
  · omega

set_option maxRecDepth 100000 in
theorem kmove_any {w : World} {o d : Ho} {ro rd B : Nat} {es : List Ent} (ho : o.Is w ro es) (hd : d.Is w rd []) (hoB : ∀ i, o.D i → i < B) (hdB : ∀ i, d.D i → B ≤ i) (hB : B ≤ w.heap.size) (hr : es.length ≤ rd) :
    Calls Tryz.prog 79 #[o.face, d.face] w fun e w' => e = .returned (.tuple #[]) ∧ HoIn B d.face d.two rd w' es ∧ Below B w w' := by
  have hu := ho.up
  have N0 : nextE es 0 = es[0]? := by have := next_up es hu (k := 0) (by omega); simpa [upA] using this
  have HU := Lib.hid hu
  have HO := Lib.hid (fun (W : World) (hk : Below B w W) => show o.Is W ro es from ho.kept (Kept.of_below' hk) (fun i hi q => by have := hoB i hi; omega))
  have HD := Lib.hid (show HoIn B d.face d.two rd w [] from ⟨d, hd, rfl, rfl, hdB⟩)
  have C0 := Lib.hid (show Calls Tryz.prog o.fNext #[.pointer (some ⟨o.at_, 0, none⟩), .int .i64 0] w fun e w' => e = .returned (entV es[0]?) ∧ Still w w' from by have := hnext_any ho 0 (by omega); rwa [N0] at this)
  have HB := Lib.hid hB
  have F1 := o.mNext (some ⟨o.at_, 0, none⟩)
  have F2 := d.mSet (some ⟨d.at_, 0, none⟩)
  have E1 := o.cNext
  have E2 := d.cSet
  have hn : es.length ≤ 256 := by have := hd.few; omega
  obtain ⟨N, hN⟩ : ∃ N, es.length = N := ⟨_, rfl⟩
  rw [hN] at hr hn
  have HN := Lib.hid hN
  have C1 := Lib.hid (fun (W : World) (k : Nat) (e : Ent) (hk : k < N) (he : es[k]? = some e) (h : HoIn B d.face d.two rd W (es.take k)) (hB' : B ≤ W.heap.size) => show ∃ n, Calls Tryz.prog d.fSet #[.pointer (some ⟨d.at_, 0, none⟩), .int .u8 (e.1.toNat : Int), .pointer e.2] W fun e' w' => e' = .returned (.int .i64 n) ∧ HoIn B d.face d.two rd w' (es.take (k + 1)) ∧ Below B W w' from by
    obtain ⟨n, hc⟩ := h.set_ hB' e.1 e.2
    rw [setR, if_neg (by rintro ⟨_, q⟩; rw [List.length_take] at q; omega), (take_set hu he).2] at hc
    exact ⟨n, hc⟩)
  have C2 := Lib.hid (fun (W : World) (k : Nat) (e : Ent) (hk : k < N) (he : es[k]? = some e) (h : o.Is W ro es) => show Calls Tryz.prog o.fNext #[.pointer (some ⟨o.at_, 0, none⟩), .int .i64 ((e.1.toNat : Int) + 1)] W fun e' w' => e' = .returned (entV es[k + 1]?) ∧ Still W w' from by
    have := hnext_any h ((e.1.toNat : Int) + 1) (by omega)
    have q := next_up es hu (k := k + 1) (by omega)
    rw [upA_succ he] at q
    rw [show ((e.1.toNat : Int) + 1) = ((e.1.toNat + 1 : Nat) : Int) by omega] at this ⊢
    rwa [q] at this)
  clear hd N0 hu hB hN hoB hdB ho
  rw [o.face_is, d.face_is]
  rw [← d.face_is]
  obtain ⟨df, hdf⟩ : ∃ df, d.face = df := ⟨_, rfl⟩
  obtain ⟨dl, hdl⟩ : ∃ dl, d.two = dl := ⟨_, rfl⟩
  have hface := d.face_is
  rw [hdf] at HD C1 hface ⊢
  rw [hdl] at HD C1 ⊢
  have HF := Lib.hid hface
  rw [HF.out]
  generalize hfn : o.fNext = fn at F1 E1 C0 C2
  generalize hfs : d.fSet = fs at F2 E2 C1
  generalize hTo : o.T = To at F1 ⊢
  generalize hTd : d.T = Td at F2 HF ⊢
  generalize hao : o.at_ = ao at F1 C0 C2 ⊢
  generalize had : d.at_ = ad at F2 C1 HF ⊢
  clear hface hfn hfs hTo hTd hao had hdf hdl
  go_enter Tryz.func79, Tryz.ntmps79
  go_wp2_with fail
  (with_reducible refine C0.out.mono ?_)
  rintro e w1 ⟨rfl, q0, rfl⟩
  go_wp2_with fail
  go_loopg [4, 5, 6] N (fun q s4 s5 s6 wr => ∃ k : Nat, k + q = N ∧ s4 = .int .u8 (eb es[k]?) ∧ s5 = .pointer (ex es[k]?) ∧ s6 = .bool es[k]?.isSome ∧ Hid (HoIn B df dl rd wr (es.take k)) ∧ Hid (Below B w wr))
  case atStart => exact ⟨0, by omega, rfl, rfl, rfl, Lib.hid (by
    obtain ⟨d', h1, h2⟩ := HD.out
    exact ⟨d', h1.drewN _, h2⟩), Lib.hid (Still.below ⟨_, rfl⟩ _)⟩
  case round =>
    obtain ⟨k, hk, h4, h5, h6, HK, BK⟩ := hrel
    have OK := Lib.hid (HO.out _ BK.out)
    have SZ := Lib.hid (Nat.le_trans HB.out BK.out.size)
    by_cases hkN : k < N
    · obtain ⟨e, he⟩ : ∃ e, es[k]? = some e := ⟨es[k]'(by have := HN.out; omega), List.getElem?_eq_getElem _⟩
      obtain ⟨n, hc⟩ := C1.out _ k e hkN he HK.out SZ.out
      have HC := Lib.hid hc
      have HE := Lib.hid he
      rw [he] at h4 h5 h6
      simp only [eb, ex, Option.isSome_some] at h4 h5 h6
      subst h4 h5 h6
      have hlt := e.1.toNat_lt
      have ew : IntKind.i64.wrap ((e.1.toNat : Int) + 1) = (e.1.toNat : Int) + 1 := by rw [IntKind.wrap_i64]; omega
      clear hc he
      go_wp2_with fail
      (with_reducible refine HC.out.mono ?_)
      rintro e' w2 ⟨rfl, k1, k2⟩
      have K1 := Lib.hid k1
      have K2 := Lib.hid k2
      have HC2 := Lib.hid (C2.out w2 k e hkN HE.out (HO.out w2 (BK.out.trans k2)))
      clear k1 k2
      go_wp2_with fail
      (with_reducible refine HC2.out.mono ?_)
      rintro e' w3 ⟨rfl, q3, rfl⟩
      go_wp2_with fail
      go_roundg (N - (k + 1))
      case measure => omega
      case rel =>
        refine ⟨k + 1, by omega, rfl, rfl, rfl, Lib.hid ?_, Lib.hid ((BK.out.trans K2.out).trans (Still.below ⟨_, rfl⟩ _))⟩
        obtain ⟨d', h1, h2⟩ := K1.out
        exact ⟨d', h1.drewN _, h2⟩
    · have he : es[k]? = none := List.getElem?_eq_none (by have := HN.out; omega)
      rw [he] at h4 h5 h6
      simp only [eb, ex, Option.isSome_none] at h4 h5 h6
      subst h4 h5 h6
      have HT := Lib.hid (show es.take k = es from List.take_of_length_le (by have := HN.out; omega))
      go_wp2
      go_end0
      exact ⟨rfl, by rw [← HT.out, ← HF.out]; exact HK.out, BK.out⟩
end Go.Proofs.YtfmkhafpbfmadaaGreat
