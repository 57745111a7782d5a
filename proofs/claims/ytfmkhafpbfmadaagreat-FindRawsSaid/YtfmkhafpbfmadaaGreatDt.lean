/-
  The document's trees: where one lies that is handed by value (its six cells, and what these stand for); Depth, Made and Fine of it.
-/
import Derived.Test.YtfmkhafpbfmadaaGreatCanonPt
import Derived.Test.YtfmkhafpbfmadaaGreatRws
import Derived.Test.YtfmkhafpbfmadaaGreatCanRead
namespace Go.Proofs.YtfmkhafpbfmadaaGreat
open Go.RowKit

def kdV (x : Nn) (k : Fo) : Int := if x.leaf then 1 else kindN k.len
theorem kd_pos (x : Nn) (k : Fo) : 1 ≤ kdV x k := by
  unfold kdV kindN
  split
  · omega
  · split <;> (try split) <;> (try split) <;> omega
theorem kd_leaf {x : Nn} (k : Fo) (h : x.leaf = true) : kdV x k = 1 := by unfold kdV; rw [if_pos h]
theorem kd_inner {x : Nn} (k : Fo) (h : x.leaf = false) : kdV x k = kindN k.len ∧ 4 ≤ kdV x k := by
  unfold kdV
  rw [h]
  refine ⟨rfl, ?_⟩
  unfold kindN
  simp only [Bool.false_eq_true, if_false]
  split <;> (try split) <;> (try split) <;> omega
/-- Where the parts of one lie. -/
structure Dv where
  A : Option Addr
  n : Nat
  c : Nat
  Ab : Option Addr
  nb : Nat
  cb : Nat
  Ak : Option Addr
  nk : Nat
  ck : Nat
def Dv.cells (d : Dv) (x : Nn) (k : Fo) : List Value := [.int .i64 (kdV x k), .slice d.A d.n d.c, .bool x.has, .int .u64 x.val, .slice d.Ab d.nb d.cb, .slice d.Ak d.nk d.ck]
structure Dat (w : World) (B : Nat) (x : Nn) (k : Fo) (d : Dv) (ek : List (List Value)) : Prop where
  part : Byt w B d.A d.n x.part
  pr : d.n ≤ d.c
  byt : Byt w B d.Ab d.nb k.bytes
  br : d.nb ≤ d.cb
  row : Rws w B d.Ak d.nk 6 ek
  kr : d.nk ≤ d.ck
def Fo.Dis (w : World) (B : Nat) : Fo → List (List Value) → Prop
  | .nil, css => css = []
  | .cons _ x k r, css => ∃ d ek er, css = d.cells x k :: er ∧ Dat w B x k d ek ∧ Fo.Dis w B k ek ∧ Fo.Dis w B r er
/-- The cells cs are the document's tree. -/
def Dno (w : World) (B : Nat) (x : Nn) (k : Fo) (cs : List Value) : Prop := ∃ d ek, cs = d.cells x k ∧ Dat w B x k d ek ∧ k.Dis w B ek
section
variable {w w' : World} {B B' : Nat}
theorem Dat.below {x : Nn} {k : Fo} {d : Dv} {ek : List (List Value)} (h : Dat w B x k d ek) (hb : Below B w w') : Dat w' B x k d ek := ⟨h.part.below hb, h.pr, h.byt.below hb, h.br, h.row.below hb, h.kr⟩
theorem Dat.more {x : Nn} {k : Fo} {d : Dv} {ek : List (List Value)} (h : Dat w B x k d ek) (hB : B ≤ B') : Dat w B' x k d ek := ⟨h.part.more hB, h.pr, h.byt.more hB, h.br, h.row.more hB, h.kr⟩
theorem Fo.Dis.below (hb : Below B w w') : ∀ {k : Fo} {css : List (List Value)}, k.Dis w B css → k.Dis w' B css
  | .nil, _, h => h
  | .cons _ _ _ _, _, ⟨d, ek, er, e, h1, h2, h3⟩ => ⟨d, ek, er, e, h1.below hb, Fo.Dis.below hb h2, Fo.Dis.below hb h3⟩
theorem Fo.Dis.more (hB : B ≤ B') : ∀ {k : Fo} {css : List (List Value)}, k.Dis w B css → k.Dis w B' css
  | .nil, _, h => h
  | .cons _ _ _ _, _, ⟨d, ek, er, e, h1, h2, h3⟩ => ⟨d, ek, er, e, h1.more hB, Fo.Dis.more hB h2, Fo.Dis.more hB h3⟩
theorem Fo.Dis.len : ∀ {k : Fo} {css : List (List Value)}, k.Dis w B css → css.length = k.len
  | .nil, _, h => by cases h; rfl
  | .cons _ _ _ _, _, ⟨_, _, _, e, _, _, h3⟩ => by subst e; simp [Fo.len, Fo.Dis.len h3]
theorem Dno.below {x : Nn} {k : Fo} {cs : List Value} (h : Dno w B x k cs) (hb : Below B w w') : Dno w' B x k cs := by
  obtain ⟨d, ek, e, h1, h2⟩ := h
  exact ⟨d, ek, e, h1.below hb, h2.below hb⟩
theorem Dno.more {x : Nn} {k : Fo} {cs : List Value} (h : Dno w B x k cs) (hB : B ≤ B') : Dno w B' x k cs := by
  obtain ⟨d, ek, e, h1, h2⟩ := h
  exact ⟨d, ek, e, h1.more hB, h2.more hB⟩
theorem drop_cons {α : Type} {l : List α} {j : Nat} {a : α} {r : List α} (h : l.drop j = a :: r) : l[j]? = some a ∧ l.drop (j + 1) = r := by
  have h0 : (l.drop j)[0]? = some a := by rw [h]; rfl
  rw [List.getElem?_drop, Nat.add_zero] at h0
  refine ⟨h0, ?_⟩
  rw [← List.drop_drop, h]
  rfl
theorem Fo.Dis.at_ {r : Fo} {ek : List (List Value)} {j : Nat} (h : r.Dis w B (ek.drop j)) (hj : j < ek.length) :
    ∃ b x k r' d e2, r = .cons b x k r' ∧ ek[j]? = some (d.cells x k) ∧ Dat w B x k d e2 ∧ k.Dis w B e2 ∧ r'.Dis w B (ek.drop (j + 1)) := by
  cases r with
  | nil =>
    have : ek.drop j = [] := h
    have := congrArg List.length this
    simp at this
    omega
  | cons b x k r' =>
    obtain ⟨d, e2, er, e, h1, h2, h3⟩ := h
    obtain ⟨q1, q2⟩ := drop_cons e
    exact ⟨b, x, k, r', d, e2, rfl, q1, h1, h2, by rw [q2]; exact h3⟩
theorem Fo.Dis.done {r : Fo} {ek : List (List Value)} {j : Nat} (h : r.Dis w B (ek.drop j)) (hj : ek.length ≤ j) : r = .nil := by
  cases r with
  | nil => rfl
  | cons b x k r' =>
    obtain ⟨d, e2, er, e, _⟩ := h
    rw [List.drop_of_length_le hj] at e
    cases e
/-- A kid in its row. -/
theorem kid_cells {A : Option Addr} {n j : Nat} {ek : List (List Value)} (h : Rws w B A n 6 ek) (hj : j < n) {d : Dv} {x : Nn} {k : Fo} (he : ek[j]? = some (d.cells x k)) :
    ∃ ad : Addr, A = some ad ∧ ad.block < B ∧ w.cell? (ad.add (j * 6)) = some (.int .i64 (kdV x k)) ∧ w.cell? ⟨(ad.add (j * 6)).block, (ad.add (j * 6)).off + 1, none⟩ = some (.slice d.A d.n d.c) ∧ w.cell? ⟨(ad.add (j * 6)).block, (ad.add (j * 6)).off + 2, none⟩ = some (.bool x.has) ∧
      w.cell? ⟨(ad.add (j * 6)).block, (ad.add (j * 6)).off + 3, none⟩ = some (.int .u64 x.val) ∧ w.cell? ⟨(ad.add (j * 6)).block, (ad.add (j * 6)).off + 4, none⟩ = some (.slice d.Ab d.nb d.cb) ∧ w.cell? ⟨(ad.add (j * 6)).block, (ad.add (j * 6)).off + 5, none⟩ = some (.slice d.Ak d.nk d.ck) := by
  obtain ⟨ad, c, rfl, hlt, e1, _, g⟩ := h.at_ hj
  rw [he] at e1
  injection e1 with e1
  subst e1
  refine ⟨ad, rfl, hlt, ?_, ?_, ?_, ?_, ?_, ?_⟩
  · have := g 0 _ rfl; rwa [Nat.add_zero] at this
  · rw [show (⟨(ad.add (j * 6)).block, (ad.add (j * 6)).off + 1, none⟩ : Addr) = ad.add (j * 6 + 1) by rw [← add_of_add]; rfl]; exact g 1 _ rfl
  · rw [show (⟨(ad.add (j * 6)).block, (ad.add (j * 6)).off + 2, none⟩ : Addr) = ad.add (j * 6 + 2) by rw [← add_of_add]; rfl]; exact g 2 _ rfl
  · rw [show (⟨(ad.add (j * 6)).block, (ad.add (j * 6)).off + 3, none⟩ : Addr) = ad.add (j * 6 + 3) by rw [← add_of_add]; rfl]; exact g 3 _ rfl
  · rw [show (⟨(ad.add (j * 6)).block, (ad.add (j * 6)).off + 4, none⟩ : Addr) = ad.add (j * 6 + 4) by rw [← add_of_add]; rfl]; exact g 4 _ rfl
  · rw [show (⟨(ad.add (j * 6)).block, (ad.add (j * 6)).off + 5, none⟩ : Addr) = ad.add (j * 6 + 5) by rw [← add_of_add]; rfl]; exact g 5 _ rfl
end
def Fo.dep : Fo → Nat
  | .nil => 0
  | .cons _ _ k r => max (k.dep + 1) r.dep
theorem Fo.vis_dep : ∀ (f : Fo) (pw : List UInt8) (d m : Nat), (f.vis pw (d + 1)).foldl (fun m v => max m v.deep) m = if f.dep = 0 then m else max m (d + f.dep)
  | .nil, _, _, _ => rfl
  | .cons b x k r, pw, d, m => by
    rw [Fo.vis_cons, List.foldl_append]
    unfold tvis
    rw [List.foldl_cons, Fo.vis_dep k _ (d + 1), Fo.vis_dep r _ d]
    have h1 : (Fo.cons b x k r).dep = max (k.dep + 1) r.dep := rfl
    rw [h1, if_neg (show ¬ max (k.dep + 1) r.dep = 0 by omega)]
    show (if r.dep = 0 then (if k.dep = 0 then max m (d + 1) else max (max m (d + 1)) (d + 1 + k.dep)) else max (if k.dep = 0 then max m (d + 1) else max (max m (d + 1)) (d + 1 + k.dep)) (d + r.dep)) = max m (d + max (k.dep + 1) r.dep)
    by_cases hr : r.dep = 0
    · rw [if_pos hr]
      split <;> omega
    · rw [if_neg hr]
      split <;> omega
theorem dpV_dep (x : Nn) (k : Fo) : dpV (otvis (some (x, k))) = k.dep + 1 := by
  show (tvis x k [] 1).foldl (fun m v => max m v.deep) 0 = _
  unfold tvis
  rw [List.foldl_cons, Fo.vis_dep k _ 1]
  show (if k.dep = 0 then max 0 1 else max (max 0 1) (1 + k.dep)) = _
  split <;> omega

abbrev dArr (kd : Int) (d : Dv) (has : Bool) (val : Int) : Array Value := #[.int .i64 kd, .slice d.A d.n d.c, .bool has, .int .u64 val, .slice d.Ab d.nb d.cb, .slice d.Ak d.nk d.ck]
end Go.Proofs.YtfmkhafpbfmadaaGreat
