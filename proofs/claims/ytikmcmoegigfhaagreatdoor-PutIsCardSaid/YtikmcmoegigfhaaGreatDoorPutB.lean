/-
  What a put does at a node: inner, above.
-/
import Derived.Test.YtikmcmoegigfhaaGreatDoorPutN
namespace Go.Proofs.YtikmcmoegigfhaaGreatDoor
open Go.RowKit Go.Shelf
attribute [local go_sem] Oper.semAt_some

section
variable {w w1 w2 W V : World} {o : Int} {S D D1 : Nat → Prop} {m : Option Nat} {rest : List Value} {cnt : Int} {x : Nn} {k : Fo} {u j i : Nat}
/-- What is boxed lies apart. -/
theorem Pre.boxed (hp : Pre w o S D m rest cnt j) (h : TOw w o S x k u D) (cs : Array Value) (ty : TypeId) (hW : w.alloc (.cells cs ty) = W) :
    Pre W o S (fun i => D i ∧ i < w.heap.size) m rest cnt j ∧ Std W W o S (fun i => D i ∧ i < w.heap.size) m rest cnt x k u (fun i => D i ∧ i < w.heap.size) 0 ∧
      ∀ V x k u D1 i, Std W V o S (fun i => D i ∧ i < w.heap.size) m rest cnt x k u D1 i → Blk V w.heap.size cs ∧ ¬ D1 w.heap.size ∧ Std w V o S D m rest cnt x k u D1 i := by
  subst hW
  have hb : Below w.heap.size w (w.alloc (.cells cs ty)) := (Below.refl _ _).alloc (Nat.le_refl _) _
  have p1 := hp.there.below hb
  refine ⟨p1, Std.start p1 ((Std.start hp h).below hp hb).tow, fun V x k u D1 i hs => ⟨hs.kept.blk (Blk.new w ty cs) (fun q => ?_), fun q => ?_, (hs.mono (fun q z => z.1)).from hb⟩⟩
  · rcases q with q | q
    · omega
    · have := hp.lt q
      omega
  · rcases hs.sub _ q with z | z
    · omega
    · have : (w.alloc (.cells cs ty)).heap.size = w.heap.size + 1 := World.size_alloc ..
      omega
theorem Pre.boxk (hp : Pre w o S D m rest cnt j) (cs : Array Value) (ty : TypeId) (hW : w.alloc (.cells cs ty) = W) (V : World) (hk : Kept (fun i => (D i ∧ i < w.heap.size) ∨ m = some i) W V) : Blk V w.heap.size cs := by
  subst hW
  refine hk.blk (Blk.new w ty cs) (fun q => ?_)
  rcases q with q | q
  · omega
  · have := hp.lt q
    omega
theorem Std.still (h : Std w w1 o S D m rest cnt x k u D1 i) (hp : Pre w o S D m rest cnt j) (hb : Still w1 w2) : Std w w2 o S D m rest cnt x k u (fun q => D1 q ∧ q < w1.heap.size) i := h.below hp (hb.below _)
theorem Still.drew1 (w : World) : Still w w.drew := ⟨1, rfl⟩
theorem Std.nod (h : Std w w1 o S D m rest cnt x k u D1 i) : ∃ be A ek, Nod w1 u (x.nd ek) be A := by
  obtain ⟨be, A, ek, n, _⟩ := h.tow.tre.nod
  exact ⟨be, A, ek, n⟩
/-- A node that is made, beside what is there. -/
theorem Std.new {y : Nn} {u' : Nat} (h : Std w w1 o S D m rest cnt x k u D1 i) (hp : Pre w o S D m rest cnt j) (ht : TOw w2 o S y .nil u' (fun q => w1.heap.size ≤ q)) (hk : Kept (fun q => m = some q) w1 w2) (hn : ∀ q, m = some q → Lst w2 q (.int .i64 (cnt + (i : Nat) + 1) :: rest)) :
    Std w w2 o S D m rest cnt y .nil u' (fun q => w1.heap.size ≤ q ∧ q < w2.heap.size) (i + 1) ∧ Std w w2 o S D m rest cnt x k u (fun q => D1 q ∧ q < w1.heap.size) (i + 1) := by
  have hz := h.kept.size
  have hn' : ∀ q, m = some q → Lst w2 q (.int .i64 (cnt + ((i + 1 : Nat) : Int)) :: rest) := fun q hq => by
    rw [show cnt + ((i + 1 : Nat) : Int) = cnt + (i : Nat) + 1 by omega]
    exact hn q hq
  have hkk := h.kept.thru hk (fun q _ z => .inr z)
  refine ⟨⟨ht.there, fun q hq => .inr (by have := hq.1; omega), hkk, hn'⟩, ⟨h.tow.there.kept hk (fun q hq y => (hp.off q y).1 hq) (fun q hq y => ?_), fun q hq => h.sub q hq.1, hkk, hn'⟩⟩
  rcases h.sub q hq.1 with z | z
  · exact (hp.off q y).2 z
  · have := hp.lt y
    omega
/-- A node that may be written to and have kids. -/
def inT (o : Int) (x : Nn) (k : Fo) : Nn × Fo := if x.leaf = true then (⟨false, o, x.part, x.val, true⟩, .nil) else (⟨false, o, x.part, x.val, x.has⟩, k)
theorem kindD_leaf {x : Nn} {ek : List Ent} (h : x.leaf = true) : kindD (x.nd ek) = 1 := by
  unfold kindD
  rw [show (x.nd ek).leaf = true from h]
  rfl
theorem kindD_inner {x : Nn} {ek : List Ent} (h : x.leaf = false) : ¬ kindD (x.nd ek) = 1 := by
  unfold kindD kindN
  rw [show (x.nd ek).leaf = false from h]
  simp only [Bool.false_eq_true, if_false]
  split
  · omega
  · split
    · omega
    · split <;> omega
def InPost (w : World) (o : Int) (S D : Nat → Prop) (m : Option Nat) (rest : List Value) (cnt : Int) (x : Nn) (k : Fo) (u : Nat) (e : Ending) (w' : World) : Prop :=
  ∃ u' D' j, e = .returned (.pointer (some ⟨u', 0, none⟩)) ∧ Std w w' o S D m rest cnt (inT o x k).1 (inT o x k).2 u' D' j ∧ j = (if x.leaf = true then 1 else if x.ow = o then 0 else 1) ∧ (x.leaf = false → x.ow = o → u' = u)
set_option maxRecDepth 100000 in
set_option maxHeartbeats 1000000 in
theorem pinner_any (hp : Pre w o S D m rest cnt 1) (h : TOw w o S x k u D) (v : Int) :
    Calls Tryz.prog 51 #[cmV v o m, .pointer (some ⟨u, 0, none⟩)] w (InPost w o S D m rest cnt x k u) := by
  obtain ⟨mp, hmp⟩ : ∃ mp, mtr m = .pointer mp := ⟨_, rfl⟩
  obtain ⟨W, hW⟩ : ∃ W, w.alloc (.cells #[.int .u64 v, .int .u64 o, .pointer mp] 63) = W := ⟨_, rfl⟩
  obtain ⟨P0, S0, BX⟩ := hp.boxed h _ _ hW
  generalize (fun i => D i ∧ i < w.heap.size) = D0 at P0 S0 BX
  obtain ⟨be, A, ek, n0⟩ := S0.nod
  have HK := nkind_any n0
  show Calls _ _ #[.agg #[.int .u64 v, .int .u64 o, mtr m], _] _ _
  rw [hmp]
  have HP := Lib.hid P0
  have HS0 := Lib.hid S0
  have HBX := Lib.hid BX
  have HMP := Lib.hid hmp
  cases hl : x.leaf with
  | false =>
    have hin : inT o x k = (⟨false, o, x.part, x.val, x.has⟩, k) := by unfold inT; rw [hl]; rfl
    have hkd := kindD_inner (ek := ek) hl
    obtain ⟨kd, hkd2⟩ : ∃ z, kindD (x.nd ek) = z := ⟨_, rfl⟩
    rw [hkd2] at HK hkd
    have hkne : (kd != 1) = true := by simpa using hkd
    have HK := Lib.hid HK
    have HL := Lib.hid hl
    have HI := Lib.hid hin
    clear hp h P0 S0 BX n0 hkd hkd2 hmp hin hl
    go_enter Tryz.func51, Tryz.ntmps51
    go_wp2_with fail
    (with_reducible refine HK.out.mono ?_)
    rintro e w1 ⟨rfl, s1⟩
    have S1 := HS0.out.still HP.out s1
    have B1 := (HBX.out _ _ _ _ _ _ S1).1
    have c1 : w1.cell? ⟨w.heap.size, 1, none⟩ = some (.int .u64 o) := B1.cell 1
    have c2 : w1.cell? ⟨w.heap.size, 2, none⟩ = some (.pointer mp) := B1.cell 2
    have HO := Lib.hid (Std.own (HP.out.on S1 (Nat.zero_le _)) S1.tow)
    rw [HMP.out] at HO
    have HS1 := Lib.hid S1
    clear S1 B1 s1 hW HK
    go_wp2_with fail
    (with_reducible refine HO.out.mono ?_)
    rintro e w2 ⟨u2, D2, rfl, S2, e2⟩
    have HF := Lib.hid (HBX.out _ _ _ _ _ _ (HS1.out.trans S2)).2.2
    have HE := Lib.hid e2
    clear S2 e2
    go_wp2_with fail
    go_ret
    refine ⟨u2, D2, (if x.ow = o then 0 else 1), rfl, ?_, ?_, fun _ q => (HE.out q).1⟩
    · rw [HI.out]
      have := HF.out
      rw [Nat.zero_add, HL.out] at this
      exact this
    · rw [HL.out]
      rfl
  | true =>
    have hin : inT o x k = (⟨false, o, x.part, x.val, true⟩, .nil) := by unfold inT; rw [hl]; rfl
    rw [kindD_leaf hl] at HK
    have HK := Lib.hid HK
    have HL := Lib.hid hl
    have HI := Lib.hid hin
    clear hp h P0 S0 BX n0 hmp hin hl
    go_enter Tryz.func51, Tryz.ntmps51
    go_wp2_with fail
    (with_reducible refine HK.out.mono ?_)
    rintro e w1 ⟨rfl, s1⟩
    have S1 := HS0.out.still HP.out s1
    obtain ⟨be1, A1, ek1, n1⟩ := S1.nod
    have HV := Lib.hid (val_any n1)
    have HS1 := Lib.hid S1
    clear S1 s1 hW HK n1
    go_wp2_with fail
    (with_reducible refine HV.out.mono ?_)
    rintro e w2 ⟨rfl, s2⟩
    have S2 := HS1.out.still HP.out s2
    obtain ⟨be2, A2, ek2, n2⟩ := S2.nod
    have HQ := Lib.hid (fun (V : World) (hV : Still w2 V) => (npartr_any (n2.still hV)).mono (fun e V' (h : CrPost V x.part e V') => And.intro h (S2.still HP.out hV)))
    have HKX := Lib.hid (fun (V : World) (D1 : Nat → Prop) (x1 : Nn) (k1 : Fo) (u1 i1 : Nat) (hs : Std W V o S D0 m rest cnt x1 k1 u1 D1 i1) => show V.cell? ⟨w.heap.size, 1, none⟩ = some (.int .u64 o) ∧ V.cell? ⟨w.heap.size, 2, none⟩ = some (.pointer mp) from ⟨(HBX.out _ _ _ _ _ _ hs).1.cell 1, (HBX.out _ _ _ _ _ _ hs).1.cell 2⟩)
    have HI2 := Lib.hid (fun (V : World) (hV : Still w2 V) (V' : World) (A3 : Option Addr) (c3 : Nat) (h3 : CrPost V x.part (.returned (.slice A3 x.part.length c3)) V') => show Calls Tryz.prog 71 #[.pointer mp, .int .u64 o, .slice A3 x.part.length c3] V' (fun e V2 => ∃ u3, e = .returned (.pointer (some ⟨u3, 0, none⟩)) ∧ Std W V2 o S D0 m rest cnt ⟨false, o, x.part, 0, false⟩ .nil u3 (fun q => V'.heap.size ≤ q ∧ q < V2.heap.size) 1) from by
      obtain ⟨A4, c4, e4, y4, z4, b4, _⟩ := h3
      injection e4 with e4
      injection e4 with e4 _ _
      subst e4
      have S3 := (S2.still HP.out hV).below HP.out b4
      have hz := b4.size
      have hzz := S3.kept.size
      rw [← HMP.out]
      refine (inner_tow (o := o) (S := S) m cnt x.part.length c3 V'.heap.size x.part (fun q hq => ⟨by have := S3.num q hq; simpa using this, (HP.out.mt q hq).2⟩) y4 (Nat.le_refl _) (by have := n2.short; exact this) (fun i hi e => ?_)).mono ?_
      · have h1 := z4 i hi
        have h2 := HP.out.lt e
        have h3 := (S2.still HP.out hV).kept.size
        omega
      rintro e V2 ⟨u3, rfl, t3, k3, n3⟩
      exact ⟨u3, rfl, (Std.new S3 HP.out t3 k3 (fun q hq => by have := n3 q hq; simpa using this)).1⟩)
    have HS2 := Lib.hid S2
    obtain ⟨c1, c2⟩ := HKX.out _ _ _ _ _ _ S2
    clear S2 s2 n2 HV
    go_upto_region 4 with fail
    go_cut [1] (fun v1 wc => ∃ u3 D3, v1 = .pointer (some ⟨u3, 0, none⟩) ∧ Hid (Std W wc o S D0 m rest cnt ⟨false, o, x.part, 0, false⟩ .nil u3 D3 1))
    case first =>
      go_region_held3 (fun w' => w'.cell? ⟨w.heap.size, 1, none⟩ = some (.int .u64 o) ∧ w'.cell? ⟨w.heap.size, 2, none⟩ = some (.pointer mp))
        (first
        | exact HKX.out _ _ _ _ _ _ HS2.out
        | exact HKX.out _ _ _ _ _ _ (HS2.out.still HP.out (Still.drew1 _))
        | exact HKX.out _ _ _ _ _ _ q5)
        (first
        | (go_at_call 38; (with_reducible refine (HQ.out _ (Still.refl _)).mono ?_); rintro e v1 ⟨⟨A3, c3, rfl, y3, z3, b3, l3⟩, st⟩; have q5 := st.below HP.out b3; have H3 := Lib.hid (HI2.out _ (Still.refl _) _ _ _ ⟨A3, c3, rfl, y3, z3, b3, l3⟩))
        | (go_at_call 38; (with_reducible refine (HQ.out _ (Still.drew1 _)).mono ?_); rintro e v1 ⟨⟨A3, c3, rfl, y3, z3, b3, l3⟩, st⟩; have q5 := st.below HP.out b3; have H3 := Lib.hid (HI2.out _ (Still.drew1 _) _ _ _ ⟨A3, c3, rfl, y3, z3, b3, l3⟩))
        | (go_at_call 71; (with_reducible refine H3.out.mono ?_); rintro e v2 ⟨u3, rfl, s3⟩; have q5 := s3))
      all_goals
        have S3 := Lib.hid s3
        clear s3 q5
        go_wp2_with fail
        go_meet
        exact ⟨u3, _, rfl, S3⟩
    case rest =>
      obtain ⟨u3, D3, rfl, HS3⟩ := hcut
      have cc1 := (HKX.out _ _ _ _ _ _ HS3.out).1
      have HSV := Lib.hid (Std.setval (HP.out.on HS3.out (Nat.le_refl _)) HS3.out.tow rfl x.val)
      go_wp2_with fail
      (with_reducible refine HSV.out.mono ?_)
      rintro e w5 ⟨rfl, D5, s5⟩
      have HF := Lib.hid (HBX.out _ _ _ _ _ _ (HS3.out.trans s5)).2.2
      clear s5
      go_wp2_with fail
      go_ret
      refine ⟨u3, D5, 1, rfl, by rw [HI.out]; exact HF.out, by rw [HL.out]; rfl, fun q => ?_⟩
      rw [HL.out] at q
      cases q
theorem Byt.keep1 {n : Nat} {A : Option Addr} {l : List UInt8} {N : Nat → Prop} (h : Byt w w.heap.size A n l) (hk : Kept N w V) (hN : ∀ i, Pb A l i → ¬ N i) : Byt V w.heap.size A n l := by
  have hl := h.1
  subst hl
  exact h.keepPb fun p hp => hk.cell (h.ltPb hp) (hN _ hp)
theorem Pre.on0 (h : Pre w o S D m rest cnt j) (hs : Std w w1 o S D m rest cnt x k u D1 0) : Pre w1 o S D1 m rest cnt j := by
  have := h.on hs (Nat.zero_le _)
  rw [Nat.sub_zero, show cnt + ((0 : Nat) : Int) = cnt by omega] at this
  exact this
theorem Std.trans0 {x' : Nn} {k' : Fo} {u' i' : Nat} {D2 : Nat → Prop} (h : Std w w1 o S D m rest cnt x k u D1 0) (h2 : Std w1 w2 o S D1 m rest cnt x' k' u' D2 i') : Std w w2 o S D m rest cnt x' k' u' D2 i' := by
  have h3 := h.trans (i' := i') (D2 := D2) (x' := x') (k' := k') (u' := u') (w2 := w2) (by rw [show cnt + ((0 : Nat) : Int) = cnt by omega]; exact h2)
  rw [Nat.zero_add] at h3
  exact h3
/-- The node above, on its way: its own blocks lie apart from the other one's. -/
structure Abv (w V : World) (o : Int) (S D : Nat → Prop) (m : Option Nat) (rest : List Value) (cnt : Int) (pre : List UInt8) (top : Nat) (Dt : Nat → Prop) (x : Nn) (k : Fo) (u : Nat) (D1 : Nat → Prop) (j : Nat) : Prop where
  top : TOw V o S ⟨false, o, pre, 0, false⟩ .nil top Dt
  new : ∀ i, Dt i → w.heap.size ≤ i ∧ i < V.heap.size
  std : Std w V o S D m rest cnt x k u D1 j
  far : ∀ i, Dt i → ¬ D1 i
def AbPost (w : World) (o : Int) (S D : Nat → Prop) (m : Option Nat) (rest : List Value) (cnt : Int) (x : Nn) (k : Fo) (pre : List UInt8) (b : UInt8) (pt : List UInt8) (e : Ending) (w' : World) : Prop :=
  ∃ u' D', e = .returned (.pointer (some ⟨u', 0, none⟩)) ∧ Std w w' o S D m rest cnt ⟨false, o, pre, 0, false⟩ (.cons b ⟨x.leaf, o, pt, x.val, x.has⟩ k .nil) u' D' (1 + if x.ow = o then 0 else 1)
set_option maxRecDepth 100000 in
set_option maxHeartbeats 1000000 in
theorem pabove_any (hp : Pre w o S D m rest cnt 2) (h : TOw w o S x k u D) (v : Int) (s : Nat) {pre pt : List UInt8} {b : UInt8} (hx : x.part = pre ++ b :: pt) (hs : pre.length = s) :
    Calls Tryz.prog 48 #[cmV v o m, .pointer (some ⟨u, 0, none⟩), .int .i64 (s : Int)] w (AbPost w o S D m rest cnt x k pre b pt) := by
  obtain ⟨mp, hmp⟩ : ∃ mp, mtr m = .pointer mp := ⟨_, rfl⟩
  obtain ⟨W, hW⟩ : ∃ W, w.alloc (.cells #[.int .u64 v, .int .u64 o, .pointer mp] 63) = W := ⟨_, rfl⟩
  obtain ⟨P0, S0, BX⟩ := hp.boxed h _ _ hW
  have hp0 : ∀ i, m = some i → i < w.heap.size := fun i hi => hp.lt hi
  have hD0 : ∀ i, D i ∧ i < w.heap.size → i < w.heap.size := fun i q => q.2
  generalize (fun i => D i ∧ i < w.heap.size) = D0 at P0 S0 BX
  obtain ⟨be, A, ek, n0⟩ := S0.nod
  have HPT := Lib.hid (npartr_any n0)
  have hsh : x.part.length ≤ 140737488355328 := n0.short
  obtain ⟨n, hn⟩ : ∃ n, x.part.length = n := ⟨_, rfl⟩
  have hsn : s < n := by rw [← hn, hx, ← hs]; simp
  have hpre : x.part.take s = pre := by rw [hx, ← hs]; simp
  have hpt : x.part.drop (s + 1) = pt := by
    rw [hx, ← hs, List.drop_append]
    simp
  have hb : x.part[s]? = some b := by rw [hx, ← hs]; simp
  show Calls _ _ #[.agg #[.int .u64 v, .int .u64 o, mtr m], _, _] _ _
  rw [hmp]
  have HP := Lib.hid P0
  have HS0 := Lib.hid S0
  have HBX := Lib.hid BX
  have HMP := Lib.hid hmp
  have HPR := Lib.hid (And.intro hpre (And.intro hpt hb))
  have HN := Lib.hid hn
  rw [show (show Nn from x).part = x.part from rfl, hn] at hsh
  have HX := Lib.hid hx
  clear hp h P0 S0 BX n0 hmp hx hs hpre hpt hb hn
  go_enter Tryz.func48, Tryz.ntmps48
  go_wp2_with fail
  (with_reducible refine HPT.out.mono ?_)
  rintro e w1 ⟨A1, c1, rfl, y1, z1, b1, l1⟩
  have S1 := HS0.out.below HP.out b1
  have P1 := HP.out.on0 S1
  have hz1 := b1.size
  obtain ⟨D1, hDe⟩ : ∃ D1, (fun q => D0 q ∧ q < W.heap.size) = D1 := ⟨_, rfl⟩
  rw [hDe] at S1 P1
  have hD1 : ∀ i, D1 i → i < W.heap.size := fun i q => by rw [← hDe] at q; exact q.2
  clear hDe
  rw [HN.out] at y1 l1 ⊢
  obtain ⟨ad, rfl, hab, _⟩ := y1.2.2 (by omega)
  have hbx := (HBX.out _ _ _ _ _ _ S1).2.1
  have hbw : w.heap.size < w1.heap.size := Nat.lt_of_lt_of_le (by rw [← hW, World.size_alloc]; omega) hz1
  have HKX := Lib.hid (fun (V : World) (hk : Kept (fun q => D1 q ∨ m = some q) w1 V) => show (V.cell? ⟨w.heap.size, 1, none⟩ = some (.int .u64 o) ∧ V.cell? ⟨w.heap.size, 2, none⟩ = some (.pointer mp)) from by
    have h1 := hk.blk (HBX.out _ _ _ _ _ _ S1).1 (fun q => by
      rcases q with q | q
      · exact hbx q
      · have h2 := HP.out.lt q
        have h3 := hp0 _ q
        omega)
    exact ⟨h1.cell 1, h1.cell 2⟩)
  have HKB := Lib.hid (fun (V : World) (hk : Kept (fun q => D1 q ∨ m = some q) w1 V) => show Byt V w1.heap.size (some ad) n x.part from y1.keep1 hk (fun i hi q => by
    have h2 := z1 i hi
    rcases q with q | q
    · have := hD1 i q
      omega
    · have := HP.out.lt q
      omega))
  have HI := Lib.hid (fun (V : World) (hV : Still w1 V) => show Calls Tryz.prog 71 #[.pointer mp, .int .u64 o, .slice (some ad) s c1] V (fun e V2 => ∃ u2, e = .returned (.pointer (some ⟨u2, 0, none⟩)) ∧ ∃ Dt D2, Abv w1 V2 o S D1 m rest cnt pre u2 Dt x k u D2 1) from by
    have Sa := (Std.start P1 S1.tow).still P1 hV
    have hza := Sa.kept.size
    have hy := (HKB.out V Sa.kept).take (Nat.le_of_lt hsn)
    rw [HPR.out.1] at hy
    rw [← HMP.out]
    refine (inner_tow (o := o) (S := S) m cnt s c1 w1.heap.size pre (fun q hq => ⟨by have := Sa.num q hq; simpa using this, (P1.mt q hq).2⟩) hy hza (by omega) (fun i hi e => ?_)).mono ?_
    · have h1 := z1 i ⟨fun q => by have := HN.out; rw [q] at this; simp at this; omega, hi.2⟩
      have h2 := HP.out.lt e
      omega
    rintro e V2 ⟨u2, rfl, t3, k3, n3⟩
    have hzb := k3.size
    obtain ⟨q1, q2⟩ := Std.new Sa P1 t3 k3 (fun q hq => by have := n3 q hq; simpa using this)
    exact ⟨u2, rfl, _, _, ⟨q1.tow, fun i hi => ⟨by have := hi.1; omega, hi.2⟩, q2, fun i hi z => by have := hi.1; have := z.2; omega⟩⟩)
  have sl1 := fun W' => slc_upto (P := Tryz.prog) Tryz.underlying23 size_u8 (some ad) n c1 s (by omega) W'
  obtain ⟨k1, k2⟩ := HKX.out w1 (Kept.refl _ _)
  have HP1 := Lib.hid P1
  have HS1 := Lib.hid S1
  clear P1 S1 HPT HS0
  go_upto_region 2 with fail
  go_cut [8] (fun v8 wc => ∃ u2, v8 = .pointer (some ⟨u2, 0, none⟩) ∧ Hid (∃ Dt D2, Abv w1 wc o S D1 m rest cnt pre u2 Dt x k u D2 1))
  case first =>
    go_region_held3 (fun w' => w'.cell? ⟨w.heap.size, 1, none⟩ = some (.int .u64 o) ∧ w'.cell? ⟨w.heap.size, 2, none⟩ = some (.pointer mp))
      (first
      | exact HKX.out _ (Kept.refl _ _)
      | exact HKX.out _ (Kept.refl _ _).drew
      | exact HKX.out _ q5)
      (first
      | (go_at_call 71; (with_reducible refine (HI.out _ (Still.refl _)).mono ?_); rintro e v2 ⟨u2, rfl, Dt, D2, s3⟩; have q5 := s3.std.kept)
      | (go_at_call 71; (with_reducible refine (HI.out _ (Still.drew1 _)).mono ?_); rintro e v2 ⟨u2, rfl, Dt, D2, s3⟩; have q5 := s3.std.kept))
    all_goals
      have S3 := Lib.hid s3
      clear s3 q5
      go_wp2_with fail
      go_meet
      exact ⟨u2, rfl, Lib.hid ⟨_, _, S3.out⟩⟩
  case rest =>
  obtain ⟨u2, rfl, HA2⟩ := hcut
  obtain ⟨Dt, D2, s2⟩ := HA2.out
  have hz2 := s2.std.kept.size
  have P2 := HP1.out.on s2.std (by omega)
  have HO := Lib.hid (Std.own P2 s2.std.tow)
  rw [HMP.out] at HO
  obtain ⟨k1, k2⟩ := HKX.out wc s2.std.kept
  have HS2 := Lib.hid s2
  have HP2 := Lib.hid P2
  clear s2 P2 HA2 hz2 sl1
  go_wp2_with fail
  (with_reducible refine HO.out.mono ?_)
  rintro e w3 ⟨u3, D3, rfl, s3, _⟩
  have HA3 := Lib.hid (show Abv w1 w3 o S D1 m rest cnt pre u2 Dt ⟨x.leaf, o, x.part, x.val, x.has⟩ k u3 D3 (1 + if x.ow = o then 0 else 1) from
    ⟨HS2.out.top.kept s3.kept (fun q hq y => y.elim (HP2.out.far q hq).1 (fun z => (HP2.out.off q z).1 hq)) (fun q hq y => y.elim (HS2.out.far q hq) (fun z => by have := (HS2.out.new q hq).1; have := HP1.out.lt z; omega)), fun q hq => ⟨(HS2.out.new q hq).1, by have := (HS2.out.new q hq).2; have := s3.kept.size; omega⟩, HS2.out.std.trans s3, fun q hq y => (s3.sub q y).elim (HS2.out.far q hq) (fun z => by have := (HS2.out.new q hq).2; omega)⟩)
  clear s3 HO HS2 HP2 k1 k2
  obtain ⟨j3, hj3⟩ : ∃ j, (1 + if x.ow = o then 0 else 1) = j := ⟨_, rfl⟩
  have hj3' : j3 ≤ 2 := by rw [← hj3]; split <;> omega
  rw [hj3] at HA3
  have HJ := Lib.hid hj3
  clear hj3
  obtain ⟨s1, hs1⟩ : ∃ X, s + 1 = X := ⟨_, rfl⟩
  have hs1n : s1 ≤ n := by omega
  have ew : IntKind.i64.wrap ((s : Int) + 1) = (s1 : Int) := by rw [IntKind.wrap_i64]; omega
  have sl2 := fun W' => slc_from (P := Tryz.prog) Tryz.underlying23 size_u8 (some ad) n c1 s1 hs1n W'
  obtain ⟨Ap, hAp⟩ : ∃ X, cutA (some ad) s1 c1 1 = X := ⟨_, rfl⟩
  obtain ⟨np, hnp⟩ : ∃ X, n - s1 = X := ⟨_, rfl⟩
  obtain ⟨cp, hcp⟩ : ∃ X, c1 - s1 = X := ⟨_, rfl⟩
  have hdr := HPR.out.2.1
  rw [hs1] at hdr
  rw [hAp, hnp, hcp] at sl2
  have HSP := Lib.hid (fun (V : World) (hV : Still w3 V) => show Calls Tryz.prog 74 #[.pointer (some ⟨u3, 0, none⟩), .int .u64 o, .slice Ap np cp] V (fun e V2 => e = .returned (.int .i64 0) ∧ ∃ D4, Abv w1 V2 o S D1 m rest cnt pre u2 Dt ⟨x.leaf, o, pt, x.val, x.has⟩ k u3 D4 j3) from by
    have Sa := HA3.out.std.still HP1.out hV
    have hza := Sa.kept.size
    have hzv := (hV.below w3.heap.size).size
    have hy := (HKB.out V Sa.kept).cut_ s1 n hs1n (Nat.le_refl _) l1
    rw [List.take_of_length_le (by rw [HN.out]; exact Nat.le_refl _), hdr, hAp, hnp] at hy
    have Pa := HP1.out.on Sa hj3'
    refine (Sa.tow.setpart rfl Pa.ne (fun q hq => (Pa.far q hq).1) Ap np cp w1.heap.size pt hy hza (by omega)).mono ?_
    rintro e V2 ⟨rfl, t4, k4⟩
    have hz4 := k4.size
    have ht := (HA3.out.top.kept (N := fun _ => False) (Kept.of_below (hV.below w3.heap.size)) (fun q _ y => y) (fun q _ y => y)).kept k4 (fun q hq y => (Pa.far q hq).1 y) (fun q hq y => HA3.out.far q hq y.1)
    refine ⟨rfl, _, ⟨ht, fun q hq => ⟨(HA3.out.new q hq).1, by have := (HA3.out.new q hq).2; omega⟩, ⟨t4.there, fun q hq => ?_, Sa.kept.thru k4 (fun q hq y => ?_), fun q hq => k4.blk (Sa.num q hq) (fun y => (Pa.off q hq).2 y)⟩, fun q hq y => ?_⟩⟩
    · rcases hq.1 with y | y
      · exact Sa.sub q y
      · exact .inr (by omega)
    · rcases Sa.sub q y with z | z
      · exact .inl z
      · omega
    · rcases y.1 with z | z
      · exact HA3.out.far q hq z.1
      · have := (HA3.out.new q hq).2
        omega)
  have HKS := Lib.hid (fun (V : World) (x1 : Nn) (k1 : Fo) (v1 : Nat) (D1' : Nat → Prop) (i1 : Nat) (hs : Std w1 V o S D1 m rest cnt x1 k1 v1 D1' i1) => HKX.out V hs.kept)
  obtain ⟨k1, k2⟩ := HKX.out w3 HA3.out.std.kept
  clear hAp hnp hcp hdr hs1 hs1n
  go_upto_region 4 with fail
  go_cut [8] (fun v8 wc => v8 = .pointer (some ⟨u2, 0, none⟩) ∧ Hid (∃ D4, Abv w1 wc o S D1 m rest cnt pre u2 Dt ⟨x.leaf, o, pt, x.val, x.has⟩ k u3 D4 j3))
  case first =>
    go_region_held3 (fun w' => w'.cell? ⟨w.heap.size, 1, none⟩ = some (.int .u64 o) ∧ w'.cell? ⟨w.heap.size, 2, none⟩ = some (.pointer mp))
      (first
      | exact HKX.out _ HA3.out.std.kept
      | exact HKX.out _ HA3.out.std.kept.drew
      | exact HKX.out _ q5)
      (first
      | (go_at_call 74; (with_reducible refine (HSP.out _ (Still.refl _)).mono ?_); rintro e v2 ⟨rfl, D4, s4⟩; have q5 := s4.std.kept)
      | (go_at_call 74; (with_reducible refine (HSP.out _ (Still.drew1 _)).mono ?_); rintro e v2 ⟨rfl, D4, s4⟩; have q5 := s4.std.kept))
    all_goals
      have S4 := Lib.hid s4
      clear s4 q5
      go_wp2_with fail
      go_meet
      exact ⟨rfl, Lib.hid ⟨_, S4.out⟩⟩
  case rest =>
  obtain ⟨rfl, HA4⟩ := hcut
  obtain ⟨D4, s4⟩ := HA4.out
  obtain ⟨k1, k2⟩ := HKX.out wc s4.std.kept
  have HSK := Lib.hid (fun (V : World) (hV : Still wc V) => show Calls Tryz.prog 52 #[.pointer (some ⟨u2, 0, none⟩), .int .u64 o, .int .u8 (b.toNat : Int), .pointer (some ⟨u3, 0, none⟩)] V (fun e V2 => e = .returned (.int .i64 0) ∧ ∃ D5, Std w1 V2 o S D1 m rest cnt ⟨false, o, pre, 0, false⟩ (.cons b ⟨x.leaf, o, pt, x.val, x.has⟩ k .nil) u2 D5 j3) from by
    have Sa := s4.std.still HP1.out hV
    have hzv := (hV.below wc.heap.size).size
    have ht := s4.top.kept (N := fun _ => False) (Kept.of_below (hV.below wc.heap.size)) (fun q _ y => y) (fun q _ y => y)
    refine (TOw.setnew ht rfl HP1.out.ne rfl Sa.tow (fun q hq y => s4.far q hq y.1) (fun q hq y => by have := (HP1.out.far q hq).2; have := (s4.new q y).1; omega) (b.toNat : Int) rfl).mono ?_
    rintro e V2 ⟨rfl, t5, k5⟩
    have hz5 := k5.size
    refine ⟨rfl, _, ⟨t5, fun q hq => ?_, Sa.kept.thru k5 (fun q hq y => ?_), fun q hq => k5.blk (Sa.num q hq) (fun y => ?_)⟩⟩
    · have := Sa.kept.size
      rcases hq with (y | y) | y
      · exact .inr (s4.new q y).1
      · exact Sa.sub q y
      · exact .inr (by omega)
    · have := (s4.new q y).1
      omega
    · have := (s4.new q y).1
      have := HP1.out.lt hq
      omega)
  have hzs : (0 : Int) ≤ (s : Int) := by omega
  have hzt : (s : Int) < (n : Int) := by omega
  have hzn : ((s : Int)).toNat = s := by omega
  have hby : ∀ V, Kept (fun q => D1 q ∨ m = some q) w1 V → V.cell? (ad.add s) = some (.int .u8 (b.toNat : Int)) := fun V hk => by
    obtain ⟨ad', e, _, hc⟩ := (HKB.out V hk).2.2 (by omega)
    injection e with e
    subst e
    exact hc s b HPR.out.2.2
  have HBY := Lib.hid hby
  have k3 := hby wc s4.std.kept
  have HS4 := Lib.hid s4
  have HBF := Lib.hid (fun (V : World) (D5 : Nat → Prop) (h : Std w1 V o S D1 m rest cnt ⟨false, o, pre, 0, false⟩ (.cons b ⟨x.leaf, o, pt, x.val, x.has⟩ k .nil) u2 D5 j3) => (HBX.out _ _ _ _ _ _ (HS1.out.trans0 h)).2.2)
  obtain ⟨bz, hbz⟩ : ∃ z : Int, (b.toNat : Int) = z := ⟨_, rfl⟩
  rw [hbz] at HSK HBY k3
  clear hby s4 HA4 hbz
  go_upto_region 5 with fail
  go_cut [8] (fun v8 wc => v8 = .pointer (some ⟨u2, 0, none⟩) ∧ Hid (∃ D5, Std w1 wc o S D1 m rest cnt ⟨false, o, pre, 0, false⟩ (.cons b ⟨x.leaf, o, pt, x.val, x.has⟩ k .nil) u2 D5 j3))
  case first =>
    go_region_held3 (fun w' => (w'.cell? ⟨w.heap.size, 1, none⟩ = some (.int .u64 o) ∧ w'.cell? ⟨w.heap.size, 2, none⟩ = some (.pointer mp)) ∧ w'.cell? (ad.add s) = some (.int .u8 bz))
      (first
      | exact ⟨HKX.out _ HS4.out.std.kept, HBY.out _ HS4.out.std.kept⟩
      | exact ⟨HKX.out _ HS4.out.std.kept.drew, HBY.out _ HS4.out.std.kept.drew⟩
      | exact ⟨HKX.out _ q5, HBY.out _ q5⟩)
      (first
      | (go_at_call 52; (with_reducible refine (HSK.out _ (Still.refl _)).mono ?_); rintro e v2 ⟨rfl, D5, s5⟩; have q5 := s5.kept)
      | (go_at_call 52; (with_reducible refine (HSK.out _ (Still.drew1 _)).mono ?_); rintro e v2 ⟨rfl, D5, s5⟩; have q5 := s5.kept))
    all_goals
      have S5 := Lib.hid s5
      clear s5 q5
      go_wp2_with fail
      go_meet
      exact ⟨rfl, Lib.hid ⟨_, S5.out⟩⟩
  case rest =>
  obtain ⟨rfl, HA5⟩ := hcut
  go_wp2_with fail
  go_ret
  obtain ⟨D5, s5⟩ := HA5.out
  exact ⟨u2, D5, rfl, by rw [HJ.out]; exact HBF.out _ _ s5⟩
end
end Go.Proofs.YtikmcmoegigfhaaGreatDoor
