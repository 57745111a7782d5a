/-
  put.into: the tree with the pair, what is made for it, and who is written to.
-/
import Derived.Test.YtikmcmoegigfhaaGreatDoorPutB
namespace Go.Proofs.YtikmcmoegigfhaaGreatDoor
open Go.RowKit Go.Shelf
attribute [local go_sem] Oper.semAt_some

/-- How many nodes are made at most. -/
def omx (o : Int) : Option (Nn × Fo) → List UInt8 → Nat
  | none, _ => 1
  | some t, l => tway o t.1 t.2 l + 2
theorem omx_pos (o : Int) (t : Option (Nn × Fo)) (l : List UInt8) : 1 ≤ omx o t l := by
  cases t with
  | none => exact Nat.le_refl _
  | some t => show 1 ≤ _ + 2; omega
theorem omx_le (o : Int) (t : Option (Nn × Fo)) (l : List UInt8) : omx o t l ≤ oway o t l + 2 := by
  cases t with
  | none => show 1 ≤ 0 + 2; omega
  | some t => exact Nat.le_refl _
def IPost (o v : Int) (w : World) (S D : Nat → Prop) (m : Option Nat) (rest : List Value) (cnt : Int) (t : Option (Nn × Fo)) (p : Option Addr) (l : List UInt8) (e : Ending) (w' : World) : Prop :=
  ∃ u D' j, e = .returned (.pointer (some ⟨u, 0, none⟩)) ∧ Std w w' o S D m rest cnt (oput o v t l).1 (oput o v t l).2 u D' j ∧ j ≤ omx o t l ∧ (ohit t l = true → j ≤ oway o t l ∧ (oway o t l = 0 → p = some ⟨u, 0, none⟩))
def Into (o v : Int) (f : Nat) : Prop :=
  ∀ (l : List UInt8) (t : Option (Nn × Fo)) (p A : Option Addr) (n c : Nat) (S D : Nat → Prop) (m : Option Nat) (rest : List Value) (cnt : Int) (w : World),
    l.length < f → OTow w o S t p D → osrt t → Pre w o S D m rest cnt (omx o t l) → (∀ V, Kept (fun q => D q ∨ m = some q) w V → Byt V w.heap.size A n l) → (∀ i, Pb A l i → m ≠ some i) → n ≤ c → n ≤ 1000000 →
    Calls Tryz.prog 24 #[cmV v o m, .pointer p, .slice A n c] w (IPost o v w S D m rest cnt t p l)
/-- What is left to do below a node, where the key goes on. -/
structure KTail (o v : Int) (x : Nn) (k : Fo) (l : List UInt8) (x1 : Nn) (k1 : Fo) (d : UInt8) (lr : List UInt8) (j2 : Nat) : Prop where
  put : tput o v x k l = ((inT o x1 k1).1, (inT o x1 k1).2.set d (oput o v ((inT o x1 k1).2.kid d) lr).1 (oput o v ((inT o x1 k1).2.kid d) lr).2)
  srt : osrt ((inT o x1 k1).2.kid d)
  cnt : j2 + omx o ((inT o x1 k1).2.kid d) lr ≤ tway o x k l + 2
  hit : thit x k l = true → ohit ((inT o x1 k1).2.kid d) lr = true ∧ j2 + oway o ((inT o x1 k1).2.kid d) lr ≤ tway o x k l ∧ (tway o x k l = 0 → x1.leaf = false ∧ x1.ow = o)
theorem inT_own (o : Int) (x : Nn) (k : Fo) : (inT o x k).1.ow = o ∧ (inT o x k).1.leaf = false := by
  unfold inT
  split <;> exact ⟨rfl, rfl⟩
section
variable {w w1 w2 W V : World} {o v : Int} {S D D1 : Nat → Prop} {m : Option Nat} {rest : List Value} {cnt : Int} {x : Nn} {k : Fo} {l : List UInt8} {u j i s : Nat}
theorem no_beg (hl : lcp l x.part = s) (h : s < x.part.length) : begB l x.part = false := by
  unfold begB
  rw [decide_eq_false_iff_not]
  omega
theorem is_beg (hl : lcp l x.part = s) (h : s = x.part.length) : begB l x.part = true := by
  unfold begB
  rw [decide_eq_true_eq]
  omega
theorem Std.hide (h : Std w w1 o S D m rest cnt x k u D1 i) : ∃ D', Std w w1 o S D m rest cnt x k u D' i := ⟨_, h⟩
/-- The key leaves the part. -/
theorem ktail_above (hl : lcp l x.part = s) {b d : UInt8} {pt lr : List UInt8} (h1 : x.part.drop s = b :: pt) (h2 : l.drop s = d :: lr) :
    KTail o v x k l ⟨false, o, l.take s, 0, false⟩ (.cons b ⟨x.leaf, o, pt, x.val, x.has⟩ k .nil) d lr (1 + (if x.ow = o then 0 else 1)) := by
  subst hl
  have hbd := lcp_two h1 h2
  have hlt : lcp l x.part < x.part.length := by
    have := congrArg List.length h1
    simp at this
    omega
  have hb : begB l x.part = false := no_beg rfl hlt
  have hkid : (Fo.cons b ⟨x.leaf, o, pt, x.val, x.has⟩ k .nil).kid d = none := by
    rw [Fo.kid, if_neg hbd]
    rfl
  have hin : inT o ⟨false, o, l.take (lcp l x.part), 0, false⟩ (.cons b ⟨x.leaf, o, pt, x.val, x.has⟩ k .nil) = (⟨false, o, l.take (lcp l x.part), 0, false⟩, .cons b ⟨x.leaf, o, pt, x.val, x.has⟩ k .nil) := rfl
  refine ⟨?_, ?_, ?_, fun q => ?_⟩
  · rw [hin, tput_forks h1 h2]
    dsimp only
    rw [hkid, ← set_two (fun e => hbd e.symm)]
    rfl
  · rw [hin]
    dsimp only
    rw [hkid]
    trivial
  · rw [hin]
    dsimp only
    rw [hkid, tway_no hb]
    show _ + 1 ≤ _
    omega
  · rw [thit_no hb] at q
    cases q
/-- The key goes on behind the node. -/
theorem ktail_on (hk : osrt (some (x, k))) (hl : lcp l x.part = s) (h1 : s = x.part.length) {d : UInt8} {lr : List UInt8} (h2 : l.drop s = d :: lr) :
    KTail o v x k l x k d lr (if x.leaf = true then 1 else if x.ow = o then 0 else 1) := by
  have hb := is_beg hl h1
  have hp : x.part.drop (lcp l x.part) = [] := by rw [hl, h1]; exact List.drop_length ..
  have h2' : l.drop (lcp l x.part) = d :: lr := by rw [hl]; exact h2
  have h3 : l.drop x.part.length = d :: lr := by rw [← h1]; exact h2
  have hw := tway_on (o := o) (k := k) hb h3
  have hh := thit_on (k := k) hb h3
  cases hlf : x.leaf with
  | true =>
    have hkn : k = .nil := hk.1 hlf
    subst hkn
    have hin : inT o x .nil = (⟨false, o, x.part, x.val, true⟩, .nil) := by unfold inT; rw [hlf]; rfl
    refine ⟨?_, ?_, ?_, fun q => ?_⟩
    · rw [hin, tput_grows hp h2' hlf]
      rfl
    · rw [hin]
      trivial
    · rw [hin, hw]
      show 1 + 1 ≤ _
      omega
    · rw [hh] at q
      cases q
  | false =>
    have hin : inT o x k = (⟨false, o, x.part, x.val, x.has⟩, k) := by unfold inT; rw [hlf]; rfl
    refine ⟨?_, ?_, ?_, fun q => ?_⟩
    · rw [hin, tput_goes' hk.2 hp h2' hlf]
    · rw [hin]
      exact Fo.srt_kid hk.2
    · rw [hin, hw]
      have := omx_le o (k.kid d) lr
      dsimp only
      simp only [Bool.false_eq_true, if_false]
      omega
    · rw [hin]
      dsimp only
      simp only [Bool.false_eq_true, if_false]
      refine ⟨hh ▸ q, by rw [hw]; exact Nat.le_refl _, fun z => ⟨hlf, ?_⟩⟩
      rw [hw] at z
      by_cases e : x.ow = o
      · exact e
      · rw [if_neg e] at z
        omega
/-- What is left to do at a node, where the key ends. -/
structure VTail (o v : Int) (x : Nn) (k : Fo) (l : List UInt8) (u : Nat) (x1 : Nn) (k1 : Fo) (u1 : Nat) (j1 : Nat) : Prop where
  put : tput o v x k l = (⟨x1.leaf, o, x1.part, v, true⟩, k1)
  cnt : j1 + (if x1.ow = o then 0 else 1) ≤ tway o x k l + 2
  hit : thit x k l = true → j1 + (if x1.ow = o then 0 else 1) ≤ tway o x k l ∧ (tway o x k l = 0 → x1.ow = o ∧ u1 = u)
theorem vtail_above (hl : lcp l x.part = s) (hn : l.length = s) {b : UInt8} {pt : List UInt8} (h1 : x.part.drop s = b :: pt) (u u1 : Nat) :
    VTail o v x k l u ⟨false, o, l.take s, 0, false⟩ (.cons b ⟨x.leaf, o, pt, x.val, x.has⟩ k .nil) u1 (1 + (if x.ow = o then 0 else 1)) := by
  have hlt : s < x.part.length := by
    have := congrArg List.length h1
    simp at this
    omega
  have hb : begB l x.part = false := no_beg hl hlt
  have h2 : l.drop (lcp l x.part) = [] := by rw [hl, ← hn]; exact List.drop_length ..
  refine ⟨?_, ?_, fun q => ?_⟩
  · rw [tput_ends (by rw [hl]; exact h1) h2, List.take_of_length_le (by omega)]
  · rw [tway_no hb]
    dsimp only
    rw [if_pos rfl]
    omega
  · rw [thit_no hb] at q
    cases q
theorem vtail_here (hl : lcp l x.part = s) (hn : l.length = s) (h1 : s = x.part.length) (u : Nat) : VTail o v x k l u x k u 0 := by
  have hb := is_beg hl h1
  have h2 : l.drop (lcp l x.part) = [] := by rw [hl, ← hn]; exact List.drop_length ..
  have h3 : x.part.drop (lcp l x.part) = [] := by rw [hl, h1]; exact List.drop_length ..
  have hw := tway_end (o := o) (k := k) hb (by omega)
  refine ⟨by rw [tput_here h3 h2], by rw [hw]; omega, fun _ => ⟨by rw [hw]; omega, fun q => ⟨?_, rfl⟩⟩⟩
  rw [hw] at q
  by_cases e : x.ow = o
  · exact e
  · rw [if_neg e] at q
    cases q
theorem Pre.sub (h : Pre w o S D m rest cnt j) (hd : ∀ q, D1 q → D q) : Pre w o S D1 m rest cnt j :=
  ⟨h.pos, fun q hq => ⟨fun z => (h.far q hq).1 (hd q z), (h.far q hq).2⟩, h.mt, fun q hq => ⟨(h.off q hq).1, fun z => (h.off q hq).2 (hd q z)⟩, h.few⟩
set_option maxRecDepth 100000 in
/-- The kid by a byte is gone into, and comes back. -/
theorem Std.gone (hp : Pre W o S D m rest cnt j) (hs : Std W w o S D m rest cnt x k u D1 i) (hi : i ≤ j) (hx : x.ow = o) (hl : x.leaf = false) (d : UInt8) :
    ∃ (p : Option Addr) (Dy : Nat → Prop), (∀ V, Still w V → Calls Tryz.prog 53 #[.pointer (some ⟨u, 0, none⟩), .int .u8 (d.toNat : Int)] V fun e V' => e = .returned (.pointer p) ∧ Still V V') ∧
      (∀ V, Still w V → OTow V o S (k.kid d) p Dy ∧ Pre V o S Dy m rest (cnt + (i : Nat)) (j - i)) ∧
      (∀ V V2, Still w V → Kept (fun q => Dy q ∨ m = some q) V V2 → Kept (fun q => D q ∨ m = some q) W V2) ∧
      ∀ V V2 y l' u' D' i', Still w V → Std V V2 o S Dy m rest (cnt + (i : Nat)) y l' u' D' i' → Calls Tryz.prog 52 #[.pointer (some ⟨u, 0, none⟩), .int .u64 o, .int .u8 (d.toNat : Int), .pointer (some ⟨u', 0, none⟩)] V2 fun e V3 => e = .returned (.int .i64 0) ∧ ∃ D3, Std W V3 o S D m rest cnt x (k.set d y l') u D3 (i + i') := by
  have P1 := hp.on hs hi
  obtain ⟨ek, Dy, h1, h2, h3⟩ := hs.tow.opn hx d
  obtain ⟨be, A, n1⟩ := h1.nod
  have hz0 := hs.kept.size
  have hkk : ∀ V V2, Still w V → Kept (fun q => Dy q ∨ m = some q) V V2 → Kept (fun q => D q ∨ m = some q) W V2 := fun V V2 hV hk => (hs.kept.thru (Kept.of_below (hV.below w.heap.size) (D := fun _ => False)) (fun q _ y => y.elim)).thru hk (fun q hq y => by
    rcases y with y | y
    · rcases hs.sub q (h3 q y).1 with z | z
      · exact .inl z
      · omega
    · exact .inr y)
  refine ⟨_, Dy, fun V hV => nkid_any (n1.still hV) d _ rfl, fun V hV => ⟨?_, (P1.below (hV.below _)).sub (fun q hq => (h3 q hq).1)⟩, hkk, fun V V2 y l' u' D' i' hV h4 => ?_⟩
  · have hk : Kept (fun _ => False) w V := Kept.of_below (hV.below w.heap.size)
    generalize k.kid d = t at h2
    show OTow V o S t (getE ek d.toNat) Dy
    cases t with
    | none => exact h2
    | some T =>
      obtain ⟨g, e, h⟩ := h2
      exact ⟨g, e, h.kept hk (fun _ _ q => q) (fun _ _ q => q)⟩
  · have hz1 := (hV.below w.heap.size).size
    have hz2 := h4.kept.size
    have h5 := (h1.kept (N := fun _ => False) (Kept.of_below (hV.below w.heap.size)) (fun _ _ q => q) (fun _ q => q.elim)).kept h4.kept (fun q hq y => y.elim (fun z => (P1.far q hq).1 (h3 q z).1) (fun z => (P1.off q z).1 hq)) (fun q y => y.imp id (fun z => (P1.off q z).2))
    refine (h5.close hx hp.ne hl (by omega) h4.tow (fun q hq => (h4.sub q hq).imp id (fun z => by omega)) (fun q hq => (h3 q hq).1) (fun q hq => (P1.far q hq).1) _ rfl).mono ?_
    rintro e V3 ⟨rfl, t3, k3⟩
    refine ⟨rfl, _, t3, fun q hq => ?_, (hkk V V2 hV h4.kept).thru k3 (fun q hq y => ?_), fun q hq => ?_⟩
    · rcases hq with y | y
      · exact hs.sub q y
      · exact .inr (by omega)
    · rcases hs.sub q y with z | z
      · exact .inl z
      · omega
    · have := k3.blk (h4.num q hq) (fun y => (P1.off q hq).2 y)
      rw [show cnt + ((i + i' : Nat) : Int) = cnt + (i : Nat) + (i' : Nat) by omega]
      exact this
set_option maxRecDepth 100000 in
set_option maxHeartbeats 1000000 in
theorem into_none (o v : Int) (l : List UInt8) (p A : Option Addr) (n c : Nat) (S D : Nat → Prop) (m : Option Nat) (rest : List Value) (cnt : Int) (w : World)
    (ht : OTow w o S none p D) (hp : Pre w o S D m rest cnt 1) (hky : ∀ V, Kept (fun q => D q ∨ m = some q) w V → Byt V w.heap.size A n l) (hkm : ∀ i, Pb A l i → m ≠ some i) (hn : n ≤ 1000000) :
    Calls Tryz.prog 24 #[cmV v o m, .pointer p, .slice A n c] w (IPost o v w S D m rest cnt none p l) := by
  obtain rfl : p = none := ht
  obtain ⟨mp, hmp⟩ : ∃ mp, mtr m = .pointer mp := ⟨_, rfl⟩
  obtain ⟨W, hW⟩ : ∃ W, w.alloc (.cells #[.int .u64 v, .int .u64 o, .pointer mp] 63) = W := ⟨_, rfl⟩
  have hb : Below w.heap.size w W := by rw [← hW]; exact (Below.refl _ _).alloc (Nat.le_refl _) _
  have BX : Blk W w.heap.size #[.int .u64 v, .int .u64 o, .pointer mp] := by rw [← hW]; exact Blk.new w _ _
  have c0 : W.cell? ⟨w.heap.size, 0, none⟩ = some (.int .u64 v) := BX.cell 0
  have c1 : W.cell? ⟨w.heap.size, 1, none⟩ = some (.int .u64 o) := BX.cell 1
  have c2 : W.cell? ⟨w.heap.size, 2, none⟩ = some (.pointer mp) := BX.cell 2
  have HK := Lib.hid (nkind_nil W)
  have HL := Lib.hid (leaf_tow (o := o) (S := S) m cnt v n c w.heap.size l (hp.mt.on hb) (hky W (Kept.of_below hb)) hb.size (by omega) hkm)
  have HF := Lib.hid (show ∀ e w', NewTow o S W m rest cnt ⟨true, o, l, v, true⟩ e w' → IPost o v w S D m rest cnt none none l e w' from fun e w' h => by
    obtain ⟨u, rfl, h1, h2, h3⟩ := h
    have hz := hb.size
    exact ⟨u, _, 1, rfl, ⟨h1, fun q hq => .inr (by omega), (Kept.of_below hb).trans (h2.mono (fun q z => .inr z)), h3⟩, Nat.le_refl _, fun q => by cases q⟩)
  show Calls _ _ #[.agg #[.int .u64 v, .int .u64 o, mtr m], _, _] _ _
  rw [hmp] at HL ⊢
  clear hp hky hkm BX hb hmp
  go_enter Tryz.func24, Tryz.ntmps24
  go_wp2_with fail
  (with_reducible refine HK.out.mono ?_)
  rintro e w1 ⟨rfl, rfl⟩
  clear hW
  go_wp2_with fail
  (with_reducible refine HL.out.mono ?_)
  intro e w2 h
  have HE := Lib.hid (HF.out _ _ h)
  obtain ⟨u2, rfl, _⟩ := h
  clear HF HL
  go_wp2_with fail
  go_ret
  exact HE.out
set_option maxRecDepth 100000 in
set_option maxHeartbeats 4000000 in
theorem into_step {f : Nat} (ih : Into o v f) : Into o v (f + 1) := by
  intro l t p A n c S D m rest cnt w hlen ht hsr hp hky hkm hnc hn
  cases t with
  | none => exact into_none o v l p A n c S D m rest cnt w ht hp hky hkm hn
  | some T =>
  obtain ⟨x, k⟩ := T
  obtain ⟨u, rfl, h⟩ := ht
  have hll : l.length = n := (hky w (Kept.refl _ _)).1
  obtain ⟨mp, hmp⟩ : ∃ mp, mtr m = .pointer mp := ⟨_, rfl⟩
  obtain ⟨W, hW⟩ : ∃ W, w.alloc (.cells #[.int .u64 v, .int .u64 o, .pointer mp] 63) = W := ⟨_, rfl⟩
  obtain ⟨P0, S0, BX⟩ := hp.boxed h _ _ hW
  have hzw : w.heap.size ≤ W.heap.size := by rw [← hW, World.size_alloc]; omega
  obtain ⟨D0, hD0⟩ : ∃ D0, (fun i => D i ∧ i < w.heap.size) = D0 := ⟨_, rfl⟩
  rw [hD0] at P0 S0 BX
  have hky0 : ∀ V, Kept (fun q => D0 q ∨ m = some q) W V → Byt V w.heap.size A n l := fun V hk => hky V ((Kept.of_below (by rw [← hW]; exact (Below.refl _ _).alloc (Nat.le_refl _) _)).trans (hk.mono fun q z => z.imp (fun y => by rw [← hD0] at y; exact y.1) id))
  have BK : ∀ V, Kept (fun q => D0 q ∨ m = some q) W V → Blk V w.heap.size #[.int .u64 v, .int .u64 o, .pointer mp] := fun V hk => hp.boxk _ _ hW V (hk.mono fun q z => z.imp (fun y => by rw [← hD0] at y; exact y) id)
  clear hD0
  obtain ⟨be, Ab, ek, n0⟩ := S0.nod
  have HK := nkind_any n0
  have hkd := kindD_ne (x.nd ek)
  obtain ⟨kd, hkd2⟩ : ∃ z, kindD (x.nd ek) = z := ⟨_, rfl⟩
  rw [hkd2] at HK hkd
  have hkne : (kd == 0) = false := by simpa using hkd
  have HK := Lib.hid HK
  show Calls _ _ #[.agg #[.int .u64 v, .int .u64 o, mtr m], _, _] _ _
  rw [hmp]
  have HP := Lib.hid P0
  have HS0 := Lib.hid S0
  have HBX := Lib.hid BX
  have HBK := Lib.hid (fun (V : World) (hk : Kept (fun q => D0 q ∨ m = some q) W V) => show V.cell? ⟨w.heap.size, 0, none⟩ = some (.int .u64 v) ∧ V.cell? ⟨w.heap.size, 1, none⟩ = some (.int .u64 o) ∧ V.cell? ⟨w.heap.size, 2, none⟩ = some (.pointer mp) from ⟨(BK V hk).cell 0, (BK V hk).cell 1, (BK V hk).cell 2⟩)
  have HKY := Lib.hid hky0
  have HKM := Lib.hid hkm
  have HMP := Lib.hid hmp
  have HLL := Lib.hid hll
  have HLN := Lib.hid hlen
  have HSR := Lib.hid hsr
  have HNC := Lib.hid hnc
  have HIH := Lib.hid ih
  have hz0 : n ≤ 9223372036854775807 := by omega
  clear hp h P0 S0 BX n0 hkd hkd2 hky hkm hmp hll hlen hsr ih hky0 hnc BK
  go_enter Tryz.func24, Tryz.ntmps24
  go_wp2_with fail
  (with_reducible refine HK.out.mono ?_)
  rintro e w1 ⟨rfl, s1⟩
  have S1 := HS0.out.still HP.out s1
  have P1 := HP.out.on0 S1
  obtain ⟨be1, A1, ek1, n1⟩ := S1.nod
  have HPT := Lib.hid (npartr_any n1)
  have hsh : x.part.length ≤ 140737488355328 := n1.short
  have HS1 := Lib.hid S1
  clear hW HK S1 P1 n1 s1
  go_wp2_with fail
  (with_reducible refine HPT.out.mono ?_)
  rintro e w2 ⟨Ap, cp, rfl, y2, _, b2, _⟩
  have S2 := HS1.out.below HP.out b2
  obtain ⟨mpl, hmpl⟩ : ∃ z, x.part.length = z := ⟨_, rfl⟩
  rw [hmpl] at y2 hsh ⊢
  have hzz := S2.kept.size
  have HC := Lib.hid (common_any A Ap n mpl c cp w2.heap.size l x.part w2 ((HKY.out w2 S2.kept).more (by omega)) y2)
  obtain ⟨s, hs⟩ : ∃ z, lcp l x.part = z := ⟨_, rfl⟩
  have hsn : s ≤ n := by have := lcp_le_left l x.part; have := HLL.out; omega
  have hsm : s ≤ mpl := by have := lcp_le_right l x.part; omega
  rw [hs] at HC
  have HS2 := Lib.hid S2
  have HS := Lib.hid hs
  have HML := Lib.hid hmpl
  clear S2 HPT y2 b2 hmpl hs hzz
  go_wp2_with fail
  (with_reducible refine HC.out.mono ?_)
  rintro e w3 ⟨rfl, s3⟩
  obtain ⟨D3, S3⟩ := (HS2.out.still HP.out s3).hide
  have HS3 := Lib.hid S3
  clear S3 s3 HS2 HS1 HC
  have hps := HS.out ▸ part_split l x.part
  by_cases hA : s = n
  case' pos =>
    subst hA
    by_cases hB : s < mpl
    case' pos =>
      have hB1 : (s : Int) < (mpl : Int) := by omega
      obtain ⟨b, pt, hdr⟩ : ∃ b pt, x.part.drop s = b :: pt := by
        rcases hx : x.part.drop s with _ | ⟨b, pt⟩
        · have h1 := congrArg List.length hx
          have h2 := HML.out
          rw [List.length_drop, List.length_nil] at h1
          omega
        · exact ⟨b, pt, rfl⟩
      have P3 := (HP.out.on0 HS3.out).less (show 2 ≤ omx o (some (x, k)) l by show 2 ≤ tway o x k l + 2; omega)
      have HAB := Lib.hid (pabove_any P3 HS3.out.tow v s (pre := l.take s) (by rw [← hdr]; exact hps) (by rw [List.length_take]; have := HLL.out; omega))
      unfold cmV at HAB
      rw [HMP.out] at HAB
      obtain ⟨k0, k1', k2'⟩ := HBK.out w3 HS3.out.kept
      have HDR := Lib.hid hdr
      clear P3 hdr hps
      go_wp2_with fail
      (with_reducible refine HAB.out.mono ?_)
      rintro e w4 ⟨u4, D4, rfl, s4⟩
      obtain ⟨x1, k1, u1, D1, j1, hu1, HSx, HVT⟩ : ∃ x1 k1 u1 D1 j1, u4 = u1 ∧ Hid (Std W w4 o S D0 m rest cnt x1 k1 u1 D1 j1) ∧ Hid (VTail o v x k l u x1 k1 u1 j1) := ⟨_, _, _, _, _, rfl, Lib.hid (HS3.out.trans0 s4), Lib.hid (vtail_above (o := o) (v := v) (k := k) HS.out HLL.out HDR.out u u4)⟩
      subst hu1
      clear s4 HAB k0 k1' k2' HDR HS3 hB hB1
    case' neg =>
      have hB1 : ¬ (s : Int) < (mpl : Int) := by omega
      obtain ⟨x1, k1, u1, D1, j1, hu1, HSx, HVT⟩ : ∃ x1 k1 u1 D1 j1, u = u1 ∧ Hid (Std W w3 o S D0 m rest cnt x1 k1 u1 D1 j1) ∧ Hid (VTail o v x k l u x1 k1 u1 j1) := ⟨_, _, _, _, _, rfl, HS3, Lib.hid (vtail_here (o := o) (v := v) (k := k) HS.out HLL.out (by have := HML.out; omega) u)⟩
      subst hu1
      clear HS3 hps hB
    all_goals
      have hcn := HVT.out.cnt
      have HO := Lib.hid (Std.own (HP.out.on HSx.out (show _ ≤ tway o x k l + 2 by omega)) HSx.out.tow)
      rw [HMP.out] at HO
      obtain ⟨k0, k1', k2'⟩ := HBK.out _ HSx.out.kept
      clear hcn
      go_wp2_with fail
      (with_reducible refine HO.out.mono ?_)
      rintro e w5 ⟨u5, D5, rfl, s5, e5⟩
      have S5 := HSx.out.trans s5
      have HSV := Lib.hid (Std.setval (HP.out.on S5 HVT.out.cnt) S5.tow rfl v)
      have HE5 := Lib.hid e5
      have HS5 := Lib.hid S5
      obtain ⟨k0, k1', k2'⟩ := HBK.out _ S5.kept
      clear S5 s5 e5 HO
      go_wp2_with fail
      (with_reducible refine HSV.out.mono ?_)
      rintro e w6 ⟨rfl, D6, s6⟩
      have HF := Lib.hid (HBX.out _ _ _ _ _ _ (HS5.out.trans s6)).2.2
      clear s6 HSV
      go_wp2_with fail
      go_ret
      refine ⟨u5, D6, _, rfl, ?_, HVT.out.cnt, fun q => ⟨(HVT.out.hit q).1, fun z => ?_⟩⟩
      · show Std w w6 o S D m rest cnt (tput o v x k l).1 (tput o v x k l).2 u5 D6 _
        rw [HVT.out.put]
        have h1 := HF.out
        rw [Nat.add_zero] at h1
        exact h1
      · obtain ⟨z1, z2⟩ := (HVT.out.hit q).2 z
        rw [(HE5.out z1).1, z2]
  case' neg =>
    have hA1 : ((s : Int) == (n : Int)) = false := by rw [beq_eq_false_iff_ne]; omega
    have hA2 : s < n := by omega
    obtain ⟨d, lr, hld⟩ : ∃ d lr, l.drop s = d :: lr := by
      rcases hx : l.drop s with _ | ⟨b, pt⟩
      · have h1 := congrArg List.length hx
        have h2 := HLL.out
        rw [List.length_drop, List.length_nil] at h1
        omega
      · exact ⟨b, pt, rfl⟩
    have HLD := Lib.hid hld
    by_cases hB : s < mpl
    case' pos =>
      have hB1 : (s : Int) < (mpl : Int) := by omega
      obtain ⟨b, pt, hdr⟩ : ∃ b pt, x.part.drop s = b :: pt := by
        rcases hx : x.part.drop s with _ | ⟨b, pt⟩
        · have h1 := congrArg List.length hx
          have h2 := HML.out
          rw [List.length_drop, List.length_nil] at h1
          omega
        · exact ⟨b, pt, rfl⟩
      have P3 := (HP.out.on0 HS3.out).less (show 2 ≤ omx o (some (x, k)) l by show 2 ≤ tway o x k l + 2; omega)
      have HAB := Lib.hid (pabove_any P3 HS3.out.tow v s (pre := l.take s) (by rw [← hdr]; exact hps) (by rw [List.length_take]; have := HLL.out; omega))
      unfold cmV at HAB
      rw [HMP.out] at HAB
      obtain ⟨k0, k1', k2'⟩ := HBK.out w3 HS3.out.kept
      have HDR := Lib.hid hdr
      clear P3 hdr hps hld
      go_wp2_with fail
      (with_reducible refine HAB.out.mono ?_)
      rintro e w4 ⟨u4, D4, rfl, s4⟩
      obtain ⟨x1, k1, u1, D1, j1, hu1, HSx, HKT, HU⟩ : ∃ x1 k1 u1 D1 j1, u4 = u1 ∧ Hid (Std W w4 o S D0 m rest cnt x1 k1 u1 D1 j1) ∧ Hid (KTail o v x k l x1 k1 d lr (j1 + (if x1.leaf = true then 1 else if x1.ow = o then 0 else 1))) ∧ Hid (thit x k l = true → u1 = u) :=
        ⟨_, _, _, _, _, rfl, Lib.hid (HS3.out.trans0 s4), Lib.hid (by simpa using ktail_above (o := o) (v := v) (k := k) HS.out HDR.out HLD.out), Lib.hid (fun q => by rw [thit_no (no_beg HS.out (by rw [HML.out]; exact hB))] at q; cases q)⟩
      subst hu1
      clear s4 HAB k0 k1' k2' HDR HS3 hB hB1
    case' neg =>
      have hB1 : ¬ (s : Int) < (mpl : Int) := by omega
      obtain ⟨x1, k1, u1, D1, j1, hu1, HSx, HKT, HU⟩ : ∃ x1 k1 u1 D1 j1, u = u1 ∧ Hid (Std W w3 o S D0 m rest cnt x1 k1 u1 D1 j1) ∧ Hid (KTail o v x k l x1 k1 d lr (j1 + (if x1.leaf = true then 1 else if x1.ow = o then 0 else 1))) ∧ Hid (thit x k l = true → u1 = u) :=
        ⟨_, _, _, _, _, rfl, HS3, Lib.hid (by rw [Nat.zero_add]; exact ktail_on (o := o) (v := v) HSR.out HS.out (by have := HML.out; omega) HLD.out), Lib.hid (fun _ => rfl)⟩
      subst hu1
      clear HS3 hps hB hld
    all_goals
      have hcn := HKT.out.cnt
      have hom := omx_pos o ((inT o x1 k1).2.kid d) lr
      have P1 := HP.out.on HSx.out (show j1 ≤ tway o x k l + 2 by omega)
      have HIN := Lib.hid (pinner_any (P1.less (show 1 ≤ tway o x k l + 2 - j1 by omega)) HSx.out.tow v)
      unfold cmV at HIN
      rw [HMP.out] at HIN
      obtain ⟨k0, k1', k2'⟩ := HBK.out _ HSx.out.kept
      clear hcn hom P1
      go_wp2_with fail
      (with_reducible refine HIN.out.mono ?_)
      rintro e w5 ⟨u5, D5, j5, rfl, s5, e5, f5⟩
      have S5 := HSx.out.trans s5
      rw [← e5] at HKT
      obtain ⟨ho2, hl2⟩ := inT_own o x1 k1
      have HK0 := HKT.out.put
      have HK1 := HKT.out.srt
      have HK2 := HKT.out.cnt
      have HK3 := HKT.out.hit
      generalize inT o x1 k1 = T2 at S5 ho2 hl2 HK0 HK1 HK2 HK3
      obtain ⟨x2, k2⟩ := T2
      dsimp only at S5 ho2 hl2 HK0 HK1 HK2 HK3
      have hj5 : j1 + j5 ≤ tway o x k l + 2 := by omega
      obtain ⟨p6, Dy, g1, g2, g3, g4⟩ := Std.gone HP.out S5 hj5 ho2 hl2 d
      have hb0 := HKY.out w5 S5.kept
      obtain ⟨ad, rfl, _, _⟩ := hb0.2.2 (by omega)
      have hdl : l.drop (s + 1) = lr := by
        have h1 : (l.drop s).drop 1 = lr := by rw [HLD.out]; rfl
        rwa [List.drop_drop] at h1
      have hds : l[s]? = some d := by
        have h1 : (l.drop s)[0]? = some d := by rw [HLD.out]; rfl
        rwa [List.getElem?_drop, Nat.add_zero] at h1
      obtain ⟨s1, hs1⟩ : ∃ X, s + 1 = X := ⟨_, rfl⟩
      have hs1n : s1 ≤ n := by omega
      have ew : IntKind.i64.wrap ((s : Int) + 1) = (s1 : Int) := by rw [IntKind.wrap_i64]; omega
      have sl2 := fun W' => slc_from (P := Tryz.prog) Tryz.underlying23 size_u8 (some ad) n c s1 hs1n W'
      obtain ⟨Ap', hAp⟩ : ∃ X, cutA (some ad) s1 c 1 = X := ⟨_, rfl⟩
      obtain ⟨np', hnp⟩ : ∃ X, n - s1 = X := ⟨_, rfl⟩
      obtain ⟨cp', hcp⟩ : ∃ X, c - s1 = X := ⟨_, rfl⟩
      rw [hs1] at hdl
      have hll1 : lr.length + s1 = n := by rw [← hdl, List.length_drop]; have := HLL.out; omega
      have hnc' := HNC.out
      have HGO := Lib.hid (fun (V : World) (hV : Still w5 V) => HIH.out lr (k2.kid d) p6 (cutA (some ad) s1 c 1) (n - s1) (c - s1) S Dy m rest (cnt + ((j1 + j5 : Nat) : Int)) V (by have := HLN.out; have := HLL.out; omega) (g2 V hV).1 HK1 ((g2 V hV).2.less (by show _ ≤ tway o x k l + 2 - (j1 + j5); omega)) (fun V' hk => by
        have h1 := (HKY.out V' (g3 V V' hV hk)).cut_ s1 n hs1n (Nat.le_refl _) hnc'
        rw [List.take_of_length_le (by rw [HLL.out]; exact Nat.le_refl _), hdl] at h1
        exact h1.more (Nat.le_trans hzw (Nat.le_trans S5.kept.size (hV.below w5.heap.size).size))) (fun i hi => HKM.out i ⟨fun q => (by rw [q] at hds; cases hds), block_cutA hi.2⟩) (by omega) (by omega))
      unfold cmV at HGO
      rw [HMP.out, hAp, hnp, hcp] at HGO
      rw [hAp, hnp, hcp] at sl2
      have HKD := Lib.hid g1
      have HG3 := Lib.hid g3
      have HSK := Lib.hid g4
      have HE5 := Lib.hid (And.intro e5 f5)
      have HS5 := Lib.hid S5
      have HKK := Lib.hid (And.intro HK0 (And.intro HK2 HK3))
      have hzs : (0 : Int) ≤ (s : Int) := by omega
      have hzt : (s : Int) < (n : Int) := by omega
      have hzn : ((s : Int)).toNat = s := by omega
      obtain ⟨bz, hbz⟩ : ∃ z : Int, (d.toNat : Int) = z := ⟨_, rfl⟩
      have k3 : w5.cell? (ad.add s) = some (.int .u8 bz) := by
        obtain ⟨ad', e, _, hc⟩ := hb0.2.2 (by omega)
        injection e with e
        subst e
        rw [← hbz]
        exact hc s d hds
      obtain ⟨k0, k1', k2'⟩ := HBK.out _ S5.kept
      have hS5k := S5.kept
      have HS5K := Lib.hid hS5k
      rw [hbz] at HKD HSK
      clear S5 s5 e5 f5 HK0 HK1 HK2 HK3 ho2 hl2 hj5 g1 g2 g3 g4 hb0 hdl hds hs1 hs1n hAp hnp hcp hll1 hbz HIN HKT hS5k hnc'
      go_upto_region 14 with fail
      go_region_held3 (fun w' => w'.cell? ⟨w.heap.size, 0, none⟩ = some (.int .u64 v) ∧ w'.cell? ⟨w.heap.size, 1, none⟩ = some (.int .u64 o) ∧ w'.cell? ⟨w.heap.size, 2, none⟩ = some (.pointer mp))
        (first
        | exact HBK.out _ HS5K.out
        | exact HBK.out _ HS5K.out.drew
        | exact HBK.out _ q5
        | exact HBK.out _ q6
        | exact HBK.out _ q7)
        (first
        | (go_at_call 53; (with_reducible refine (HKD.out _ (Still.refl _)).mono ?_); rintro e v1 ⟨rfl, q1⟩; have q5 := HG3.out _ _ q1 (Kept.refl _ _))
        | (go_at_call 53; (with_reducible refine (HKD.out _ (Still.drew1 _)).mono ?_); rintro e v1 ⟨rfl, q0⟩; have q1 := (Still.drew1 _).trans q0; have q5 := HG3.out _ _ q1 (Kept.refl _ _))
        | (go_at_call 24; (with_reducible refine (HGO.out _ q1).mono ?_); rintro e v2 ⟨u7, D7, j7, rfl, s7, b7, c7⟩; have q6 := HG3.out _ _ q1 s7.kept)
        | (go_at_call 52; (with_reducible refine (HSK.out _ _ _ _ _ _ _ q1 s7).mono ?_); rintro e v3 ⟨rfl, D8, s8⟩; have q7 := s8.kept))
      all_goals
        have HF := Lib.hid (HBX.out _ _ _ _ _ _ s8).2.2
        have HB7 := Lib.hid (And.intro b7 c7)
        clear s8 s7 b7 c7 q5 q6 q7 q1
        go_wp2_with fail
        go_ret
        refine ⟨u5, D8, j1 + j5 + j7, rfl, ?_, ?_, fun q => ?_⟩
        · show Std w v3 o S D m rest cnt (tput o v x k l).1 (tput o v x k l).2 u5 D8 _
          rw [HKK.out.1]
          exact HF.out
        · show _ ≤ tway o x k l + 2
          have h1 := HKK.out.2.1
          have h2 := HB7.out.1
          omega
        · obtain ⟨h1, h2, h3⟩ := HKK.out.2.2 q
          have h4 := (HB7.out.2 h1).1
          refine ⟨by show _ ≤ tway o x k l; omega, fun z => ?_⟩
          obtain ⟨h5, h6⟩ := h3 z
          first
          | rw [HE5.out.2 h5 h6, HU.out q]
          | rw [HE5.out.2 h5 h6]
theorem into_any (o v : Int) : ∀ f, Into o v f
  | 0 => fun _ _ _ _ _ _ _ _ _ _ _ _ h => absurd h (Nat.not_lt_zero _)
  | f + 1 => into_step (into_any o v f)
end
end Go.Proofs.YtikmcmoegigfhaaGreatDoor
