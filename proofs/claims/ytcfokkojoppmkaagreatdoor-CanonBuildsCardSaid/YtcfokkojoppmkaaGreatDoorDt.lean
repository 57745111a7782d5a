/-
  The document's trees: where one lies that is handed by value (its six cells, and what these stand for); Depth, Made and Fine of it.
  The document's trees: Fine.
-/
import Derived.Test.YtcfokkojoppmkaaGreatDoorCanonPt
import Derived.Test.YtcfokkojoppmkaaGreatDoorRws
import Derived.Test.YtcfokkojoppmkaaGreatDoorCanRead
namespace Go.Proofs.YtcfokkojoppmkaaGreatDoor
open Go.RowKit

def kdV (x : Nn) (k : Fo) : Int := if x.leaf then 1 else kindN k.len
theorem kd_pos (x : Nn) (k : Fo) : 1 ≤ kdV x k := by
  unfold kdV kindN
  split
  · omega
  · split <;> (try split) <;> (try split) <;> omega
theorem kd_leaf {x : Nn} (k : Fo) (h : x.leaf = true) : kdV x k = 1 := by unfold kdV; rw [if_pos h]
theorem kd_inner {x : Nn} (k : Fo) (h : x.leaf = false) : kdV x k = kindN k.len ∧ 4 ≤ kdV x k := by
  unfold kdV
  rw [h]
  refine ⟨rfl, ?_⟩
  unfold kindN
  simp only [Bool.false_eq_true, if_false]
  split <;> (try split) <;> (try split) <;> omega
/-- Where the parts of one lie. -/
structure Dv where
  A : Option Addr
  n : Nat
  c : Nat
  Ab : Option Addr
  nb : Nat
  cb : Nat
  Ak : Option Addr
  nk : Nat
  ck : Nat
def Dv.cells (d : Dv) (x : Nn) (k : Fo) : List Value := [.int .i64 (kdV x k), .slice d.A d.n d.c, .bool x.has, .int .u64 x.val, .slice d.Ab d.nb d.cb, .slice d.Ak d.nk d.ck]
structure Dat (w : World) (B : Nat) (x : Nn) (k : Fo) (d : Dv) (ek : List (List Value)) : Prop where
  part : Byt w B d.A d.n x.part
  pr : d.n ≤ d.c
  byt : Byt w B d.Ab d.nb k.bytes
  br : d.nb ≤ d.cb
  row : Rws w B d.Ak d.nk 6 ek
  kr : d.nk ≤ d.ck
def Fo.Dis (w : World) (B : Nat) : Fo → List (List Value) → Prop
  | .nil, css => css = []
  | .cons _ x k r, css => ∃ d ek er, css = d.cells x k :: er ∧ Dat w B x k d ek ∧ Fo.Dis w B k ek ∧ Fo.Dis w B r er
/-- The cells cs are the document's tree. -/
def Dno (w : World) (B : Nat) (x : Nn) (k : Fo) (cs : List Value) : Prop := ∃ d ek, cs = d.cells x k ∧ Dat w B x k d ek ∧ k.Dis w B ek
section
variable {w w' : World} {B B' : Nat}
theorem Dat.below {x : Nn} {k : Fo} {d : Dv} {ek : List (List Value)} (h : Dat w B x k d ek) (hb : Below B w w') : Dat w' B x k d ek := ⟨h.part.below hb, h.pr, h.byt.below hb, h.br, h.row.below hb, h.kr⟩
theorem Dat.more {x : Nn} {k : Fo} {d : Dv} {ek : List (List Value)} (h : Dat w B x k d ek) (hB : B ≤ B') : Dat w B' x k d ek := ⟨h.part.more hB, h.pr, h.byt.more hB, h.br, h.row.more hB, h.kr⟩
theorem Fo.Dis.below (hb : Below B w w') : ∀ {k : Fo} {css : List (List Value)}, k.Dis w B css → k.Dis w' B css
  | .nil, _, h => h
  | .cons _ _ _ _, _, ⟨d, ek, er, e, h1, h2, h3⟩ => ⟨d, ek, er, e, h1.below hb, Fo.Dis.below hb h2, Fo.Dis.below hb h3⟩
theorem Fo.Dis.more (hB : B ≤ B') : ∀ {k : Fo} {css : List (List Value)}, k.Dis w B css → k.Dis w B' css
  | .nil, _, h => h
  | .cons _ _ _ _, _, ⟨d, ek, er, e, h1, h2, h3⟩ => ⟨d, ek, er, e, h1.more hB, Fo.Dis.more hB h2, Fo.Dis.more hB h3⟩
theorem Fo.Dis.len : ∀ {k : Fo} {css : List (List Value)}, k.Dis w B css → css.length = k.len
  | .nil, _, h => by cases h; rfl
  | .cons _ _ _ _, _, ⟨_, _, _, e, _, _, h3⟩ => by subst e; simp [Fo.len, Fo.Dis.len h3]
theorem Dno.below {x : Nn} {k : Fo} {cs : List Value} (h : Dno w B x k cs) (hb : Below B w w') : Dno w' B x k cs := by
  obtain ⟨d, ek, e, h1, h2⟩ := h
  exact ⟨d, ek, e, h1.below hb, h2.below hb⟩
theorem Dno.more {x : Nn} {k : Fo} {cs : List Value} (h : Dno w B x k cs) (hB : B ≤ B') : Dno w B' x k cs := by
  obtain ⟨d, ek, e, h1, h2⟩ := h
  exact ⟨d, ek, e, h1.more hB, h2.more hB⟩
theorem drop_cons {α : Type} {l : List α} {j : Nat} {a : α} {r : List α} (h : l.drop j = a :: r) : l[j]? = some a ∧ l.drop (j + 1) = r := by
  have h0 : (l.drop j)[0]? = some a := by rw [h]; rfl
  rw [List.getElem?_drop, Nat.add_zero] at h0
  refine ⟨h0, ?_⟩
  rw [← List.drop_drop, h]
  rfl
theorem Fo.Dis.at_ {r : Fo} {ek : List (List Value)} {j : Nat} (h : r.Dis w B (ek.drop j)) (hj : j < ek.length) :
    ∃ b x k r' d e2, r = .cons b x k r' ∧ ek[j]? = some (d.cells x k) ∧ Dat w B x k d e2 ∧ k.Dis w B e2 ∧ r'.Dis w B (ek.drop (j + 1)) := by
  cases r with
  | nil =>
    have : ek.drop j = [] := h
    have := congrArg List.length this
    simp at this
    omega
  | cons b x k r' =>
    obtain ⟨d, e2, er, e, h1, h2, h3⟩ := h
    obtain ⟨q1, q2⟩ := drop_cons e
    exact ⟨b, x, k, r', d, e2, rfl, q1, h1, h2, by rw [q2]; exact h3⟩
theorem Fo.Dis.done {r : Fo} {ek : List (List Value)} {j : Nat} (h : r.Dis w B (ek.drop j)) (hj : ek.length ≤ j) : r = .nil := by
  cases r with
  | nil => rfl
  | cons b x k r' =>
    obtain ⟨d, e2, er, e, _⟩ := h
    rw [List.drop_of_length_le hj] at e
    cases e
/-- A kid in its row. -/
theorem kid_cells {A : Option Addr} {n j : Nat} {ek : List (List Value)} (h : Rws w B A n 6 ek) (hj : j < n) {d : Dv} {x : Nn} {k : Fo} (he : ek[j]? = some (d.cells x k)) :
    ∃ ad : Addr, A = some ad ∧ ad.block < B ∧ w.cell? (ad.add (j * 6)) = some (.int .i64 (kdV x k)) ∧ w.cell? ⟨(ad.add (j * 6)).block, (ad.add (j * 6)).off + 1, none⟩ = some (.slice d.A d.n d.c) ∧ w.cell? ⟨(ad.add (j * 6)).block, (ad.add (j * 6)).off + 2, none⟩ = some (.bool x.has) ∧
      w.cell? ⟨(ad.add (j * 6)).block, (ad.add (j * 6)).off + 3, none⟩ = some (.int .u64 x.val) ∧ w.cell? ⟨(ad.add (j * 6)).block, (ad.add (j * 6)).off + 4, none⟩ = some (.slice d.Ab d.nb d.cb) ∧ w.cell? ⟨(ad.add (j * 6)).block, (ad.add (j * 6)).off + 5, none⟩ = some (.slice d.Ak d.nk d.ck) := by
  obtain ⟨ad, c, rfl, hlt, e1, _, g⟩ := h.at_ hj
  rw [he] at e1
  injection e1 with e1
  subst e1
  refine ⟨ad, rfl, hlt, ?_, ?_, ?_, ?_, ?_, ?_⟩
  · have := g 0 _ rfl; rwa [Nat.add_zero] at this
  · rw [show (⟨(ad.add (j * 6)).block, (ad.add (j * 6)).off + 1, none⟩ : Addr) = ad.add (j * 6 + 1) by rw [← add_of_add]; rfl]; exact g 1 _ rfl
  · rw [show (⟨(ad.add (j * 6)).block, (ad.add (j * 6)).off + 2, none⟩ : Addr) = ad.add (j * 6 + 2) by rw [← add_of_add]; rfl]; exact g 2 _ rfl
  · rw [show (⟨(ad.add (j * 6)).block, (ad.add (j * 6)).off + 3, none⟩ : Addr) = ad.add (j * 6 + 3) by rw [← add_of_add]; rfl]; exact g 3 _ rfl
  · rw [show (⟨(ad.add (j * 6)).block, (ad.add (j * 6)).off + 4, none⟩ : Addr) = ad.add (j * 6 + 4) by rw [← add_of_add]; rfl]; exact g 4 _ rfl
  · rw [show (⟨(ad.add (j * 6)).block, (ad.add (j * 6)).off + 5, none⟩ : Addr) = ad.add (j * 6 + 5) by rw [← add_of_add]; rfl]; exact g 5 _ rfl
end
def Fo.dep : Fo → Nat
  | .nil => 0
  | .cons _ _ k r => max (k.dep + 1) r.dep
theorem Fo.vis_dep : ∀ (f : Fo) (pw : List UInt8) (d m : Nat), (f.vis pw (d + 1)).foldl (fun m v => max m v.deep) m = if f.dep = 0 then m else max m (d + f.dep)
  | .nil, _, _, _ => rfl
  | .cons b x k r, pw, d, m => by
    rw [Fo.vis_cons, List.foldl_append]
    unfold tvis
    rw [List.foldl_cons, Fo.vis_dep k _ (d + 1), Fo.vis_dep r _ d]
    have h1 : (Fo.cons b x k r).dep = max (k.dep + 1) r.dep := rfl
    rw [h1, if_neg (show ¬ max (k.dep + 1) r.dep = 0 by omega)]
    show (if r.dep = 0 then (if k.dep = 0 then max m (d + 1) else max (max m (d + 1)) (d + 1 + k.dep)) else max (if k.dep = 0 then max m (d + 1) else max (max m (d + 1)) (d + 1 + k.dep)) (d + r.dep)) = max m (d + max (k.dep + 1) r.dep)
    by_cases hr : r.dep = 0
    · rw [if_pos hr]
      split <;> omega
    · rw [if_neg hr]
      split <;> omega
theorem dpV_dep (x : Nn) (k : Fo) : dpV (otvis (some (x, k))) = k.dep + 1 := by
  show (tvis x k [] 1).foldl (fun m v => max m v.deep) 0 = _
  unfold tvis
  rw [List.foldl_cons, Fo.vis_dep k _ 1]
  show (if k.dep = 0 then max 0 1 else max (max 0 1) (1 + k.dep)) = _
  split <;> omega

abbrev dArr (kd : Int) (d : Dv) (has : Bool) (val : Int) : Array Value := #[.int .i64 kd, .slice d.A d.n d.c, .bool has, .int .u64 val, .slice d.Ab d.nb d.cb, .slice d.Ak d.nk d.ck]
def DepOk (x : Nn) (k : Fo) : Prop := ∀ (B : Nat) (w : World) (cs : List Value), Dno w B x k cs → B ≤ w.heap.size → k.dep ≤ 1000000 →
  Calls Tryz.prog 21 #[.agg cs.toArray] w fun e w' => e = .returned (.int .i64 (k.dep + 1 : Nat)) ∧ Below w.heap.size w w'
set_option maxRecDepth 100000 in
set_option maxHeartbeats 1000000 in
theorem rdepth_step (x : Nn) (k : Fo) (hK : k.All fun _ x k => DepOk x k) : DepOk x k := by
  intro B w cs hd hB hdp
  obtain ⟨d, ek, rfl, ha, hkid⟩ := hd
  have hl : ek.length = d.nk := ha.row.1
  have hkr := ha.kr
  have hnk : d.nk = k.len := by rw [← hl]; exact hkid.len
  have hn9 : d.nk ≤ 9223372036854775807 := by have := ha.row.2.1; unfold maxLen at this; omega
  show Calls Tryz.prog 21 #[.agg (dArr (kdV x k) d x.has x.val)] w _
  have hk0 := kd_pos x k
  generalize kdV x k = kd at hk0
  generalize x.has = hs
  generalize x.val = vl
  have hk1 : (kd == 0) = false := by rw [beq_eq_false_iff_ne]; omega
  obtain ⟨W, hW⟩ : ∃ V, w.alloc (.cells (dArr kd d hs vl) 45) = V := ⟨_, rfl⟩
  have bW : Below w.heap.size w W := by rw [← hW]; exact (Below.refl _ _).alloc (Nat.le_refl _) _
  have sW : W.heap.size = w.heap.size + 1 := by rw [← hW]; simp
  have lW : Blk W w.heap.size (dArr kd d hs vl) := by rw [← hW]; exact Blk.new w _ _
  have KC0 := Lib.hid (fun V (h : Below W.heap.size W V) => show V.cell? ⟨w.heap.size, 0, none⟩ = some (.int .i64 kd) from (h.cell (p := ⟨w.heap.size, 0, none⟩) (by show w.heap.size < _; omega)).trans (lW.cell 0))
  have KC5 := Lib.hid (fun V (h : Below W.heap.size W V) => show V.cell? ⟨w.heap.size, 5, none⟩ = some (.slice d.Ak d.nk d.ck) from (h.cell (p := ⟨w.heap.size, 5, none⟩) (by show w.heap.size < _; omega)).trans (lW.cell 5))
  have BW := Lib.hid bW
  have HR := Lib.hid (fun V (h : Below W.heap.size W V) => (ha.row.below ((bW.trans (h.mono bW.size)).mono hB)))
  have HD := Lib.hid (fun V (h : Below W.heap.size W V) => ((bW.trans (h.mono bW.size)).mono hB : Below B w V))
  have HL := Lib.hid hl
  have HB := Lib.hid hB
  have HKA := Lib.hid hK
  have HKD := Lib.hid hkid
  have HDP := Lib.hid hdp
  have c0 := KC0.out W (Below.refl _ _)
  clear ha hkid hl hB hK hdp bW lW
  go_enter Tryz.func21, Tryz.ntmps21
  go_wp2
  go_loopw [3, 4] (fun dv i wr => ∃ (j m : Nat) (r : Fo), j ≤ d.nk ∧ i = .int .i64 j ∧ dv = .int .i64 m ∧ m ≤ 1000001 ∧ Hid (max m r.dep = k.dep ∧ (r.All fun _ x k => DepOk x k) ∧ r.Dis w B (ek.drop j)) ∧ Hid (Below W.heap.size W wr)) (fun _ i _ => d.nk - (intOf i).toNat)
  case atStart => exact ⟨0, 0, k, Nat.zero_le _, rfl, rfl, Nat.zero_le _, Lib.hid ⟨by omega, HKA.out, HKD.out⟩, Lib.hid (Below.refl _ _)⟩
  case round =>
    obtain ⟨j, m, r, hj, rfl, rfl, hm, HF, HBr⟩ := hrel
    have c5 := KC5.out wr HBr.out
    by_cases h1 : j < d.nk
    · obtain ⟨hmx, hall, hdis⟩ := HF.out
      obtain ⟨b, x', k', r', d', e2, rfl, hej, hat, hk2, hr2⟩ := hdis.at_ (by have := HL.out; omega)
      obtain ⟨ad, hA, hlt, f0, f1, f2, f3, f4, f5⟩ := kid_cells (HR.out wr HBr.out) h1 hej
      have hdx : max (k'.dep + 1) r'.dep ≤ 1000000 := by
        have h2 : (Fo.cons b x' k' r').dep = max (k'.dep + 1) r'.dep := rfl
        have := HDP.out
        rw [h2] at hmx
        omega
      have HC := Lib.hid (hall.1 B wr (d'.cells x' k') ⟨d', e2, rfl, hat.below (HD.out wr HBr.out), hk2.below (HD.out wr HBr.out)⟩ (Nat.le_trans HB.out (by have := HBr.out.size; omega)) (by omega))
      have hmx2 : max (max m (k'.dep + 1)) r'.dep = k.dep := by
        rw [← hmx]
        show _ = max m (max (k'.dep + 1) r'.dep)
        omega
      have HF2 := Lib.hid (show max (max m (k'.dep + 1)) r'.dep = k.dep ∧ (r'.All fun _ x k => DepOk x k) ∧ r'.Dis w B (ek.drop (j + 1)) from ⟨hmx2, hall.2, hr2⟩)
      have hm2 : max m (k'.dep + 1) ≤ 1000001 := by omega
      obtain ⟨dk, hdk⟩ : ∃ q, k'.dep + 1 = q := ⟨_, rfl⟩
      have hck : (d'.cells x' k').toArray = dArr (kdV x' k') d' x'.has x'.val := rfl
      rw [hdk, hck] at HC
      rw [hdk] at HF2 hm2
      generalize kdV x' k' = kd' at f0 HC
      have ij : (j : Int) < (d.nk : Int) := by omega
      rw [hA] at c5
      clear hA hmx hall hdis hej hat hk2 hr2 hmx2 hdk hck HF hdx
      go_wp2_with fail
      (with_reducible refine HC.out.mono ?_)
      rintro e w2 ⟨rfl, b2⟩
      have HB2 := Lib.hid (HBr.out.trans (b2.mono HBr.out.size))
      clear b2 HC
      by_cases hmd : m < dk
      · rw [Nat.max_eq_right (a := m) (b := dk) (by omega)] at HF2 hm2
        have hmx3 : max (m : Int) (dk : Int) = (dk : Int) := by omega
        go_wp2
        exact ⟨⟨j + 1, dk, r', by omega, by go_num, by go_num, hm2, HF2, HB2⟩, by simp [intOf]; omega⟩
      · rw [Nat.max_eq_left (a := m) (b := dk) (by omega)] at HF2 hm2
        have hmx3 : max (m : Int) (dk : Int) = (m : Int) := by omega
        go_wp2
        exact ⟨⟨j + 1, m, r', by omega, by go_num, by go_num, hm2, HF2, HB2⟩, by simp [intOf]; omega⟩
    · obtain rfl : j = d.nk := by omega
      obtain ⟨hmx, _, hdis⟩ := HF.out
      obtain rfl := hdis.done (by rw [HL.out]; exact Nat.le_refl _)
      have hm3 : m = k.dep := by
        rw [← hmx]
        show m = max m 0
        omega
      have BE := Lib.hid (BW.out.trans (HBr.out.mono BW.out.size))
      have HM3 := Lib.hid hm3
      clear hmx hdis hm3 HF
      go_wp2
      go_ret
      exact ⟨by rw [HM3.out]; rfl, BE.out⟩
theorem rdepth_any (x : Nn) (k : Fo) : DepOk x k := rdepth_step x k (Fo.all_of (fun _ x k h => rdepth_step x k h) k)
def MadOk (x : Nn) (k : Fo) : Prop := ∀ (B : Nat) (w : World) (cs : List Value), Dno w B x k cs → B ≤ w.heap.size → k.tn ≤ 100000000 →
  Calls Tryz.prog 23 #[.agg cs.toArray] w fun e w' => e = .returned (.int .i64 (1 + k.tn : Nat)) ∧ Below w.heap.size w w'
set_option maxRecDepth 100000 in
set_option maxHeartbeats 1000000 in
theorem rmade_step (x : Nn) (k : Fo) (hK : k.All fun _ x k => MadOk x k) : MadOk x k := by
  intro B w cs hd hB hdp
  obtain ⟨d, ek, rfl, ha, hkid⟩ := hd
  have hl : ek.length = d.nk := ha.row.1
  have hkr := ha.kr
  have hnk : d.nk = k.len := by rw [← hl]; exact hkid.len
  have hn9 : d.nk ≤ 9223372036854775807 := by have := ha.row.2.1; unfold maxLen at this; omega
  show Calls Tryz.prog 23 #[.agg (dArr (kdV x k) d x.has x.val)] w _
  have hk0 := kd_pos x k
  generalize kdV x k = kd at hk0
  generalize x.has = hs
  generalize x.val = vl
  have hk1 : (kd == 0) = false := by rw [beq_eq_false_iff_ne]; omega
  obtain ⟨W, hW⟩ : ∃ V, w.alloc (.cells (dArr kd d hs vl) 45) = V := ⟨_, rfl⟩
  have bW : Below w.heap.size w W := by rw [← hW]; exact (Below.refl _ _).alloc (Nat.le_refl _) _
  have sW : W.heap.size = w.heap.size + 1 := by rw [← hW]; simp
  have lW : Blk W w.heap.size (dArr kd d hs vl) := by rw [← hW]; exact Blk.new w _ _
  have KC0 := Lib.hid (fun V (h : Below W.heap.size W V) => show V.cell? ⟨w.heap.size, 0, none⟩ = some (.int .i64 kd) from (h.cell (p := ⟨w.heap.size, 0, none⟩) (by show w.heap.size < _; omega)).trans (lW.cell 0))
  have KC5 := Lib.hid (fun V (h : Below W.heap.size W V) => show V.cell? ⟨w.heap.size, 5, none⟩ = some (.slice d.Ak d.nk d.ck) from (h.cell (p := ⟨w.heap.size, 5, none⟩) (by show w.heap.size < _; omega)).trans (lW.cell 5))
  have BW := Lib.hid bW
  have HR := Lib.hid (fun V (h : Below W.heap.size W V) => (ha.row.below ((bW.trans (h.mono bW.size)).mono hB)))
  have HD := Lib.hid (fun V (h : Below W.heap.size W V) => ((bW.trans (h.mono bW.size)).mono hB : Below B w V))
  have HL := Lib.hid hl
  have HB := Lib.hid hB
  have HKA := Lib.hid hK
  have HKD := Lib.hid hkid
  have HDP := Lib.hid hdp
  have c0 := KC0.out W (Below.refl _ _)
  clear ha hkid hl hB hK hdp bW lW
  go_enter Tryz.func23, Tryz.ntmps23
  go_wp2
  go_loopw [3, 4] (fun dv i wr => ∃ (j m : Nat) (r : Fo), j ≤ d.nk ∧ i = .int .i64 j ∧ dv = .int .i64 m ∧ m ≤ 100000001 ∧ Hid (m + r.tn = 1 + k.tn ∧ (r.All fun _ x k => MadOk x k) ∧ r.Dis w B (ek.drop j)) ∧ Hid (Below W.heap.size W wr)) (fun _ i _ => d.nk - (intOf i).toNat)
  case atStart => exact ⟨0, 1, k, Nat.zero_le _, rfl, rfl, by omega, Lib.hid ⟨rfl, HKA.out, HKD.out⟩, Lib.hid (Below.refl _ _)⟩
  case round =>
    obtain ⟨j, m, r, hj, rfl, rfl, hm, HF, HBr⟩ := hrel
    have c5 := KC5.out wr HBr.out
    by_cases h1 : j < d.nk
    · obtain ⟨hmx, hall, hdis⟩ := HF.out
      obtain ⟨b, x', k', r', d', e2, rfl, hej, hat, hk2, hr2⟩ := hdis.at_ (by have := HL.out; omega)
      obtain ⟨ad, hA, hlt, f0, f1, f2, f3, f4, f5⟩ := kid_cells (HR.out wr HBr.out) h1 hej
      have h2 : (Fo.cons b x' k' r').tn = 1 + k'.tn + r'.tn := rfl
      have hdx : m + (1 + k'.tn) + r'.tn = 1 + k.tn := by
        rw [h2] at hmx
        omega
      have := HDP.out
      have HC := Lib.hid (hall.1 B wr (d'.cells x' k') ⟨d', e2, rfl, hat.below (HD.out wr HBr.out), hk2.below (HD.out wr HBr.out)⟩ (Nat.le_trans HB.out (by have := HBr.out.size; omega)) (by omega))
      have HF2 := Lib.hid (show m + (1 + k'.tn) + r'.tn = 1 + k.tn ∧ (r'.All fun _ x k => MadOk x k) ∧ r'.Dis w B (ek.drop (j + 1)) from ⟨hdx, hall.2, hr2⟩)
      have hm2 : m + (1 + k'.tn) ≤ 100000001 := by omega
      obtain ⟨dk, hdk⟩ : ∃ q, 1 + k'.tn = q := ⟨_, rfl⟩
      have hck : (d'.cells x' k').toArray = dArr (kdV x' k') d' x'.has x'.val := rfl
      rw [hdk, hck] at HC
      rw [hdk] at HF2 hm2
      generalize kdV x' k' = kd' at f0 HC
      have ij : (j : Int) < (d.nk : Int) := by omega
      rw [hA] at c5
      clear hA hmx hall hdis hej hat hk2 hr2 hdk hck HF hdx h2 this
      go_wp2_with fail
      (with_reducible refine HC.out.mono ?_)
      rintro e w2 ⟨rfl, b2⟩
      have HB2 := Lib.hid (HBr.out.trans (b2.mono HBr.out.size))
      clear b2 HC
      go_wp2
      exact ⟨⟨j + 1, m + dk, r', by omega, by go_num, by go_num, hm2, HF2, HB2⟩, by simp [intOf]; omega⟩
    · obtain rfl : j = d.nk := by omega
      obtain ⟨hmx, _, hdis⟩ := HF.out
      obtain rfl := hdis.done (by rw [HL.out]; exact Nat.le_refl _)
      have hm3 : m = 1 + k.tn := hmx
      have BE := Lib.hid (BW.out.trans (HBr.out.mono BW.out.size))
      have HM3 := Lib.hid hm3
      clear hmx hdis hm3 HF
      go_wp2
      go_ret
      exact ⟨by rw [HM3.out]; rfl, BE.out⟩
theorem rmade_any (x : Nn) (k : Fo) : MadOk x k := rmade_step x k (Fo.all_of (fun _ x k h => rmade_step x k h) k)
end Go.Proofs.YtcfokkojoppmkaaGreatDoor

namespace Go.Proofs.YtcfokkojoppmkaaGreatDoor
open Go.RowKit

def ffN (x : Nn) (k : Fo) : Bool := x.leaf || decide (2 ≤ k.len + if x.has then 1 else 0)
def Fo.ff : Fo → Bool
  | .nil => true
  | .cons _ x k r => (ffN x k && k.ff) && r.ff
theorem Fo.vis_ff : ∀ (f : Fo) (pw : List UInt8) (d : Nat), (∀ v ∈ f.vis pw d, v.way.length ≤ 65535) → (f.vis pw d).all Vt.fine = f.ff
  | .nil, _, _, _ => rfl
  | .cons b x k r, pw, d, h => by
    rw [Fo.vis_cons] at h ⊢
    unfold tvis at h ⊢
    rw [List.all_append, List.all_cons, Fo.vis_ff k _ _ (fun v hv => h v (List.mem_append_left _ (List.mem_cons_of_mem _ hv))), Fo.vis_ff r _ _ (fun v hv => h v (List.mem_append_right _ hv))]
    have := h ⟨x, k.len, (pw ++ [b]) ++ x.part, d⟩ (by simp)
    unfold Vt.fine Vt.occ
    rw [decide_eq_true this]
    rfl
theorem fine_ff (x : Nn) (k : Fo) (h : ∀ v ∈ otvis (some (x, k)), v.way.length ≤ 65535) : (otvis (some (x, k))).all Vt.fine = (ffN x k && k.ff) := by
  show (tvis x k [] 1).all Vt.fine = _
  have h' : ∀ v ∈ tvis x k [] 1, v.way.length ≤ 65535 := h
  unfold tvis at h' ⊢
  rw [List.all_cons, Fo.vis_ff k _ _ (fun v hv => h' v (List.mem_cons_of_mem _ hv))]
  have := h' ⟨x, k.len, [] ++ x.part, 1⟩ (by simp)
  unfold Vt.fine Vt.occ
  rw [decide_eq_true this]
  rfl
def FinOk (x : Nn) (k : Fo) : Prop := ∀ (B : Nat) (w : World) (cs : List Value), Dno w B x k cs → B ≤ w.heap.size →
  Calls Tryz.prog 32 #[.agg cs.toArray] w fun e w' => e = .returned (.bool (ffN x k && k.ff)) ∧ Below w.heap.size w w'
set_option maxRecDepth 100000 in
set_option maxHeartbeats 2000000 in
theorem rfine_step (x : Nn) (k : Fo) (hK : k.All fun _ x k => FinOk x k) : FinOk x k := by
  intro B w cs hd hB
  obtain ⟨d, ek, rfl, ha, hkid⟩ := hd
  have hl : ek.length = d.nk := ha.row.1
  have hkr := ha.kr
  have hnk : d.nk = k.len := by rw [← hl]; exact hkid.len
  have hn9 : d.nk ≤ 9223372036854775807 := by have := ha.row.2.1; unfold maxLen at this; omega
  show Calls Tryz.prog 32 #[.agg (dArr (kdV x k) d x.has x.val)] w _
  have hkl := fun h => kd_leaf (x := x) k h
  have hki := fun h => (kd_inner (x := x) k h).2
  have hfd : ffN x k = (x.leaf || decide (2 ≤ d.nk + if x.has then 1 else 0)) := by rw [hnk]; rfl
  generalize ffN x k = fN at hfd
  generalize kdV x k = kd at hkl hki
  generalize x.has = hs at hfd
  generalize x.val = vl
  generalize x.leaf = lf at hfd hkl hki
  obtain ⟨W, hW⟩ : ∃ V, w.alloc (.cells (dArr kd d hs vl) 45) = V := ⟨_, rfl⟩
  have bW : Below w.heap.size w W := by rw [← hW]; exact (Below.refl _ _).alloc (Nat.le_refl _) _
  have sW : W.heap.size = w.heap.size + 1 := by rw [← hW]; simp
  have lW : Blk W w.heap.size (dArr kd d hs vl) := by rw [← hW]; exact Blk.new w _ _
  have KC0 := Lib.hid (fun V (h : Below W.heap.size W V) => show V.cell? ⟨w.heap.size, 0, none⟩ = some (.int .i64 kd) from (h.cell (p := ⟨w.heap.size, 0, none⟩) (by show w.heap.size < _; omega)).trans (lW.cell 0))
  have KC2 := Lib.hid (fun V (h : Below W.heap.size W V) => show V.cell? ⟨w.heap.size, 2, none⟩ = some (.bool hs) from (h.cell (p := ⟨w.heap.size, 2, none⟩) (by show w.heap.size < _; omega)).trans (lW.cell 2))
  have KC5 := Lib.hid (fun V (h : Below W.heap.size W V) => show V.cell? ⟨w.heap.size, 5, none⟩ = some (.slice d.Ak d.nk d.ck) from (h.cell (p := ⟨w.heap.size, 5, none⟩) (by show w.heap.size < _; omega)).trans (lW.cell 5))
  have BW := Lib.hid bW
  have HR := Lib.hid (fun V (h : Below W.heap.size W V) => (ha.row.below ((bW.trans (h.mono bW.size)).mono hB)))
  have HD := Lib.hid (fun V (h : Below W.heap.size W V) => ((bW.trans (h.mono bW.size)).mono hB : Below B w V))
  have HL := Lib.hid hl
  have HB := Lib.hid hB
  have HKA := Lib.hid hK
  have HKD := Lib.hid hkid
  have c0 := KC0.out W (Below.refl _ _)
  have c2 := KC2.out W (Below.refl _ _)
  have c5' := KC5.out W (Below.refl _ _)
  clear ha hkid hl hB hK bW lW hnk
  cases lf with
  | true =>
    obtain rfl : kd = 1 := hkl rfl
    have HFT := Lib.hid (show fN = true from hfd)
    clear hkl hki hfd
    go_enter Tryz.func32, Tryz.ntmps32
    go_wp2
    go_loopw [3] (fun i wr => ∃ (j : Nat) (r : Fo), j ≤ d.nk ∧ i = .int .i64 j ∧ Hid (r.ff = k.ff ∧ (r.All fun _ x k => FinOk x k) ∧ r.Dis w B (ek.drop j)) ∧ Hid (Below W.heap.size W wr)) (fun i _ => d.nk - (intOf i).toNat)
    case atStart => exact ⟨0, k, Nat.zero_le _, rfl, Lib.hid ⟨rfl, HKA.out, HKD.out⟩, Lib.hid (Below.refl _ _)⟩
    case round =>
      obtain ⟨j, r, hj, rfl, HF, HBr⟩ := hrel
      have c5 := KC5.out wr HBr.out
      by_cases h1 : j < d.nk
      · obtain ⟨hmx, hall, hdis⟩ := HF.out
        obtain ⟨b, x', k', r', d', e2, rfl, hej, hat, hk2, hr2⟩ := hdis.at_ (by have := HL.out; omega)
        obtain ⟨ad, hA, hlt, f0, f1, f2, f3, f4, f5⟩ := kid_cells (HR.out wr HBr.out) h1 hej
        have h2 : (Fo.cons b x' k' r').ff = ((ffN x' k' && k'.ff) && r'.ff) := rfl
        have HC := Lib.hid (hall.1 B wr (d'.cells x' k') ⟨d', e2, rfl, hat.below (HD.out wr HBr.out), hk2.below (HD.out wr HBr.out)⟩ (Nat.le_trans HB.out (by have := HBr.out.size; omega)))
        obtain ⟨fk, hfk⟩ : ∃ q, (ffN x' k' && k'.ff) = q := ⟨_, rfl⟩
        rw [h2, hfk] at hmx
        have hck : (d'.cells x' k').toArray = dArr (kdV x' k') d' x'.has x'.val := rfl
        rw [hfk, hck] at HC
        have HF2 := Lib.hid (show fk = true → r'.ff = k.ff ∧ (r'.All fun _ x k => FinOk x k) ∧ r'.Dis w B (ek.drop (j + 1)) from fun e => ⟨by rw [← hmx, e]; rfl, hall.2, hr2⟩)
        have HF3 := Lib.hid (show fk = false → k.ff = false from fun e => by rw [← hmx, e]; rfl)
        generalize kdV x' k' = kd' at f0 HC
        have ij : (j : Int) < (d.nk : Int) := by omega
        rw [hA] at c5
        clear hA hmx hall hdis hej hat hk2 hr2 hfk hck HF h2
        go_wp2_with fail
        (with_reducible refine HC.out.mono ?_)
        rintro e w2 ⟨rfl, b2⟩
        have HB2 := Lib.hid (HBr.out.trans (b2.mono HBr.out.size))
        clear b2 HC
        cases fk with
        | true =>
          have HF4 := Lib.hid (HF2.out rfl)
          go_wp2
          exact ⟨⟨j + 1, r', by omega, by go_num, HF4, HB2⟩, by simp [intOf]; omega⟩
        | false =>
          have HF4 := Lib.hid (HF3.out rfl)
          have BE := Lib.hid (BW.out.trans (HB2.out.mono BW.out.size))
          go_wp2
          go_ret
          exact ⟨by rw [HF4.out, Bool.and_false]; rfl, BE.out⟩
      · obtain rfl : j = d.nk := by omega
        obtain ⟨hmx, _, hdis⟩ := HF.out
        obtain rfl := hdis.done (by rw [HL.out]; exact Nat.le_refl _)
        have HM3 := Lib.hid (show k.ff = true from hmx.symm)
        have BE := Lib.hid (BW.out.trans (HBr.out.mono BW.out.size))
        clear hmx hdis HF
        go_wp2
        go_ret
        exact ⟨by rw [HM3.out, HFT.out]; rfl, BE.out⟩

  | false =>
    have hk4 : 4 ≤ kd := hki rfl
    have hk1 : decide (1 < kd) = true := decide_eq_true (by omega)
    have HFD := Lib.hid (show fN = decide (2 ≤ d.nk + if hs then 1 else 0) from hfd)
    clear hkl hki hfd
    by_cases n0 : d.nk = 0
    · have HFF := Lib.hid (show fN = false by rw [HFD.out]; apply decide_eq_false; rw [n0]; split <;> omega)
      have n0' : ((d.nk : Int) == 0) = true := by rw [beq_iff_eq]; omega
      go_enter Tryz.func32, Tryz.ntmps32
      go_wp2
      go_ret
      exact ⟨by rw [HFF.out]; rfl, BW.out⟩
    · have n0' : ((d.nk : Int) == 0) = false := by rw [beq_eq_false_iff_ne]; omega
      by_cases n1 : d.nk = 1
      · have n1' : ((d.nk : Int) == 1) = true := by rw [beq_iff_eq]; omega
        cases hs with
        | false =>
          have HFF := Lib.hid (show fN = false by rw [HFD.out]; apply decide_eq_false; rw [n1]; simp)
          go_enter Tryz.func32, Tryz.ntmps32
          go_wp2
          go_ret
          exact ⟨by rw [HFF.out]; rfl, BW.out⟩
        | true =>
          have HFT := Lib.hid (show fN = true by rw [HFD.out]; apply decide_eq_true; simp; omega)
          go_enter Tryz.func32, Tryz.ntmps32
          go_wp2
          go_loopw [3] (fun i wr => ∃ (j : Nat) (r : Fo), j ≤ d.nk ∧ i = .int .i64 j ∧ Hid (r.ff = k.ff ∧ (r.All fun _ x k => FinOk x k) ∧ r.Dis w B (ek.drop j)) ∧ Hid (Below W.heap.size W wr)) (fun i _ => d.nk - (intOf i).toNat)
          case atStart => exact ⟨0, k, Nat.zero_le _, rfl, Lib.hid ⟨rfl, HKA.out, HKD.out⟩, Lib.hid (Below.refl _ _)⟩
          case round =>
            obtain ⟨j, r, hj, rfl, HF, HBr⟩ := hrel
            have c5 := KC5.out wr HBr.out
            by_cases h1 : j < d.nk
            · obtain ⟨hmx, hall, hdis⟩ := HF.out
              obtain ⟨b, x', k', r', d', e2, rfl, hej, hat, hk2, hr2⟩ := hdis.at_ (by have := HL.out; omega)
              obtain ⟨ad, hA, hlt, f0, f1, f2, f3, f4, f5⟩ := kid_cells (HR.out wr HBr.out) h1 hej
              have h2 : (Fo.cons b x' k' r').ff = ((ffN x' k' && k'.ff) && r'.ff) := rfl
              have HC := Lib.hid (hall.1 B wr (d'.cells x' k') ⟨d', e2, rfl, hat.below (HD.out wr HBr.out), hk2.below (HD.out wr HBr.out)⟩ (Nat.le_trans HB.out (by have := HBr.out.size; omega)))
              obtain ⟨fk, hfk⟩ : ∃ q, (ffN x' k' && k'.ff) = q := ⟨_, rfl⟩
              rw [h2, hfk] at hmx
              have hck : (d'.cells x' k').toArray = dArr (kdV x' k') d' x'.has x'.val := rfl
              rw [hfk, hck] at HC
              have HF2 := Lib.hid (show fk = true → r'.ff = k.ff ∧ (r'.All fun _ x k => FinOk x k) ∧ r'.Dis w B (ek.drop (j + 1)) from fun e => ⟨by rw [← hmx, e]; rfl, hall.2, hr2⟩)
              have HF3 := Lib.hid (show fk = false → k.ff = false from fun e => by rw [← hmx, e]; rfl)
              generalize kdV x' k' = kd' at f0 HC
              have ij : (j : Int) < (d.nk : Int) := by omega
              rw [hA] at c5
              clear hA hmx hall hdis hej hat hk2 hr2 hfk hck HF h2
              go_wp2_with fail
              (with_reducible refine HC.out.mono ?_)
              rintro e w2 ⟨rfl, b2⟩
              have HB2 := Lib.hid (HBr.out.trans (b2.mono HBr.out.size))
              clear b2 HC
              cases fk with
              | true =>
                have HF4 := Lib.hid (HF2.out rfl)
                go_wp2
                exact ⟨⟨j + 1, r', by omega, by go_num, HF4, HB2⟩, by simp [intOf]; omega⟩
              | false =>
                have HF4 := Lib.hid (HF3.out rfl)
                have BE := Lib.hid (BW.out.trans (HB2.out.mono BW.out.size))
                go_wp2
                go_ret
                exact ⟨by rw [HF4.out, Bool.and_false]; rfl, BE.out⟩
            · obtain rfl : j = d.nk := by omega
              obtain ⟨hmx, _, hdis⟩ := HF.out
              obtain rfl := hdis.done (by rw [HL.out]; exact Nat.le_refl _)
              have HM3 := Lib.hid (show k.ff = true from hmx.symm)
              have BE := Lib.hid (BW.out.trans (HBr.out.mono BW.out.size))
              clear hmx hdis HF
              go_wp2
              go_ret
              exact ⟨by rw [HM3.out, HFT.out]; rfl, BE.out⟩

      · have n1' : ((d.nk : Int) == 1) = false := by rw [beq_eq_false_iff_ne]; omega
        have HFT := Lib.hid (show fN = true by rw [HFD.out]; apply decide_eq_true; omega)
        go_enter Tryz.func32, Tryz.ntmps32
        go_wp2
        go_loopw [3] (fun i wr => ∃ (j : Nat) (r : Fo), j ≤ d.nk ∧ i = .int .i64 j ∧ Hid (r.ff = k.ff ∧ (r.All fun _ x k => FinOk x k) ∧ r.Dis w B (ek.drop j)) ∧ Hid (Below W.heap.size W wr)) (fun i _ => d.nk - (intOf i).toNat)
        case atStart => exact ⟨0, k, Nat.zero_le _, rfl, Lib.hid ⟨rfl, HKA.out, HKD.out⟩, Lib.hid (Below.refl _ _)⟩
        case round =>
          obtain ⟨j, r, hj, rfl, HF, HBr⟩ := hrel
          have c5 := KC5.out wr HBr.out
          by_cases h1 : j < d.nk
          · obtain ⟨hmx, hall, hdis⟩ := HF.out
            obtain ⟨b, x', k', r', d', e2, rfl, hej, hat, hk2, hr2⟩ := hdis.at_ (by have := HL.out; omega)
            obtain ⟨ad, hA, hlt, f0, f1, f2, f3, f4, f5⟩ := kid_cells (HR.out wr HBr.out) h1 hej
            have h2 : (Fo.cons b x' k' r').ff = ((ffN x' k' && k'.ff) && r'.ff) := rfl
            have HC := Lib.hid (hall.1 B wr (d'.cells x' k') ⟨d', e2, rfl, hat.below (HD.out wr HBr.out), hk2.below (HD.out wr HBr.out)⟩ (Nat.le_trans HB.out (by have := HBr.out.size; omega)))
            obtain ⟨fk, hfk⟩ : ∃ q, (ffN x' k' && k'.ff) = q := ⟨_, rfl⟩
            rw [h2, hfk] at hmx
            have hck : (d'.cells x' k').toArray = dArr (kdV x' k') d' x'.has x'.val := rfl
            rw [hfk, hck] at HC
            have HF2 := Lib.hid (show fk = true → r'.ff = k.ff ∧ (r'.All fun _ x k => FinOk x k) ∧ r'.Dis w B (ek.drop (j + 1)) from fun e => ⟨by rw [← hmx, e]; rfl, hall.2, hr2⟩)
            have HF3 := Lib.hid (show fk = false → k.ff = false from fun e => by rw [← hmx, e]; rfl)
            generalize kdV x' k' = kd' at f0 HC
            have ij : (j : Int) < (d.nk : Int) := by omega
            rw [hA] at c5
            clear hA hmx hall hdis hej hat hk2 hr2 hfk hck HF h2
            go_wp2_with fail
            (with_reducible refine HC.out.mono ?_)
            rintro e w2 ⟨rfl, b2⟩
            have HB2 := Lib.hid (HBr.out.trans (b2.mono HBr.out.size))
            clear b2 HC
            cases fk with
            | true =>
              have HF4 := Lib.hid (HF2.out rfl)
              go_wp2
              exact ⟨⟨j + 1, r', by omega, by go_num, HF4, HB2⟩, by simp [intOf]; omega⟩
            | false =>
              have HF4 := Lib.hid (HF3.out rfl)
              have BE := Lib.hid (BW.out.trans (HB2.out.mono BW.out.size))
              go_wp2
              go_ret
              exact ⟨by rw [HF4.out, Bool.and_false]; rfl, BE.out⟩
          · obtain rfl : j = d.nk := by omega
            obtain ⟨hmx, _, hdis⟩ := HF.out
            obtain rfl := hdis.done (by rw [HL.out]; exact Nat.le_refl _)
            have HM3 := Lib.hid (show k.ff = true from hmx.symm)
            have BE := Lib.hid (BW.out.trans (HBr.out.mono BW.out.size))
            clear hmx hdis HF
            go_wp2
            go_ret
            exact ⟨by rw [HM3.out, HFT.out]; rfl, BE.out⟩

theorem rfine_any (x : Nn) (k : Fo) : FinOk x k := rfine_step x k (Fo.all_of (fun _ x k h => rfine_step x k h) k)
end Go.Proofs.YtcfokkojoppmkaaGreatDoor
