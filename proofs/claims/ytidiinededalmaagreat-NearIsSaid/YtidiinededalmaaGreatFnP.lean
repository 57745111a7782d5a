/-
  The document's trees: where one lies that is handed by value (its six cells, and what these stand for); Depth, Made and Fine of it.
  Where bytes are looked for in a tree: the nodes that are gone into, and what each of them tells. No program is run.
  The value of the first pair by a key. No program is run.
-/
import Derived.Test.YtidiinededalmaaGreatCanonPt
import Derived.Test.YtidiinededalmaaGreatTree
import Derived.Test.YtidiinededalmaaGreatCanRead
namespace Go.Proofs.YtidiinededalmaaGreat
open Go.RowKit

def kdV (x : Nn) (k : Fo) : Int := if x.leaf then 1 else kindN k.len
theorem kd_pos (x : Nn) (k : Fo) : 1 ≤ kdV x k := by
  unfold kdV kindN
  split
  · omega
  · split <;> (try split) <;> (try split) <;> omega
theorem kd_leaf {x : Nn} (k : Fo) (h : x.leaf = true) : kdV x k = 1 := by unfold kdV; rw [if_pos h]
theorem kd_inner {x : Nn} (k : Fo) (h : x.leaf = false) : kdV x k = kindN k.len ∧ 4 ≤ kdV x k := by
  unfold kdV
  rw [h]
  refine ⟨rfl, ?_⟩
  unfold kindN
  simp only [Bool.false_eq_true, if_false]
  split <;> (try split) <;> (try split) <;> omega
/-- Where the parts of one lie. -/
structure Dv where
  A : Option Addr
  n : Nat
  c : Nat
  Ab : Option Addr
  nb : Nat
  cb : Nat
  Ak : Option Addr
  nk : Nat
  ck : Nat
def Dv.cells (d : Dv) (x : Nn) (k : Fo) : List Value := [.int .i64 (kdV x k), .slice d.A d.n d.c, .bool x.has, .int .u64 x.val, .slice d.Ab d.nb d.cb, .slice d.Ak d.nk d.ck]
structure Dat (w : World) (B : Nat) (x : Nn) (k : Fo) (d : Dv) (ek : List (List Value)) : Prop where
  part : Byt w B d.A d.n x.part
  pr : d.n ≤ d.c
  byt : Byt w B d.Ab d.nb k.bytes
  br : d.nb ≤ d.cb
  row : Rws w B d.Ak d.nk 6 ek
  kr : d.nk ≤ d.ck
def Fo.Dis (w : World) (B : Nat) : Fo → List (List Value) → Prop
  | .nil, css => css = []
  | .cons _ x k r, css => ∃ d ek er, css = d.cells x k :: er ∧ Dat w B x k d ek ∧ Fo.Dis w B k ek ∧ Fo.Dis w B r er
/-- The cells cs are the document's tree. -/
def Dno (w : World) (B : Nat) (x : Nn) (k : Fo) (cs : List Value) : Prop := ∃ d ek, cs = d.cells x k ∧ Dat w B x k d ek ∧ k.Dis w B ek
section
variable {w w' : World} {B B' : Nat}
theorem Dat.below {x : Nn} {k : Fo} {d : Dv} {ek : List (List Value)} (h : Dat w B x k d ek) (hb : Below B w w') : Dat w' B x k d ek := ⟨h.part.below hb, h.pr, h.byt.below hb, h.br, h.row.below hb, h.kr⟩
theorem Dat.more {x : Nn} {k : Fo} {d : Dv} {ek : List (List Value)} (h : Dat w B x k d ek) (hB : B ≤ B') : Dat w B' x k d ek := ⟨h.part.more hB, h.pr, h.byt.more hB, h.br, h.row.more hB, h.kr⟩
theorem Fo.Dis.below (hb : Below B w w') : ∀ {k : Fo} {css : List (List Value)}, k.Dis w B css → k.Dis w' B css
  | .nil, _, h => h
  | .cons _ _ _ _, _, ⟨d, ek, er, e, h1, h2, h3⟩ => ⟨d, ek, er, e, h1.below hb, Fo.Dis.below hb h2, Fo.Dis.below hb h3⟩
theorem Fo.Dis.more (hB : B ≤ B') : ∀ {k : Fo} {css : List (List Value)}, k.Dis w B css → k.Dis w B' css
  | .nil, _, h => h
  | .cons _ _ _ _, _, ⟨d, ek, er, e, h1, h2, h3⟩ => ⟨d, ek, er, e, h1.more hB, Fo.Dis.more hB h2, Fo.Dis.more hB h3⟩
theorem Fo.Dis.len : ∀ {k : Fo} {css : List (List Value)}, k.Dis w B css → css.length = k.len
  | .nil, _, h => by cases h; rfl
  | .cons _ _ _ _, _, ⟨_, _, _, e, _, _, h3⟩ => by subst e; simp [Fo.len, Fo.Dis.len h3]
theorem Dno.below {x : Nn} {k : Fo} {cs : List Value} (h : Dno w B x k cs) (hb : Below B w w') : Dno w' B x k cs := by
  obtain ⟨d, ek, e, h1, h2⟩ := h
  exact ⟨d, ek, e, h1.below hb, h2.below hb⟩
theorem Dno.more {x : Nn} {k : Fo} {cs : List Value} (h : Dno w B x k cs) (hB : B ≤ B') : Dno w B' x k cs := by
  obtain ⟨d, ek, e, h1, h2⟩ := h
  exact ⟨d, ek, e, h1.more hB, h2.more hB⟩
theorem drop_cons {α : Type} {l : List α} {j : Nat} {a : α} {r : List α} (h : l.drop j = a :: r) : l[j]? = some a ∧ l.drop (j + 1) = r := by
  have h0 : (l.drop j)[0]? = some a := by rw [h]; rfl
  rw [List.getElem?_drop, Nat.add_zero] at h0
  refine ⟨h0, ?_⟩
  rw [← List.drop_drop, h]
  rfl
theorem Fo.Dis.at_ {r : Fo} {ek : List (List Value)} {j : Nat} (h : r.Dis w B (ek.drop j)) (hj : j < ek.length) :
    ∃ b x k r' d e2, r = .cons b x k r' ∧ ek[j]? = some (d.cells x k) ∧ Dat w B x k d e2 ∧ k.Dis w B e2 ∧ r'.Dis w B (ek.drop (j + 1)) := by
  cases r with
  | nil =>
    have : ek.drop j = [] := h
    have := congrArg List.length this
    simp at this
    omega
  | cons b x k r' =>
    obtain ⟨d, e2, er, e, h1, h2, h3⟩ := h
    obtain ⟨q1, q2⟩ := drop_cons e
    exact ⟨b, x, k, r', d, e2, rfl, q1, h1, h2, by rw [q2]; exact h3⟩
theorem Fo.Dis.done {r : Fo} {ek : List (List Value)} {j : Nat} (h : r.Dis w B (ek.drop j)) (hj : ek.length ≤ j) : r = .nil := by
  cases r with
  | nil => rfl
  | cons b x k r' =>
    obtain ⟨d, e2, er, e, _⟩ := h
    rw [List.drop_of_length_le hj] at e
    cases e
/-- A kid in its row. -/
theorem kid_cells {A : Option Addr} {n j : Nat} {ek : List (List Value)} (h : Rws w B A n 6 ek) (hj : j < n) {d : Dv} {x : Nn} {k : Fo} (he : ek[j]? = some (d.cells x k)) :
    ∃ ad : Addr, A = some ad ∧ ad.block < B ∧ w.cell? (ad.add (j * 6)) = some (.int .i64 (kdV x k)) ∧ w.cell? ⟨(ad.add (j * 6)).block, (ad.add (j * 6)).off + 1, none⟩ = some (.slice d.A d.n d.c) ∧ w.cell? ⟨(ad.add (j * 6)).block, (ad.add (j * 6)).off + 2, none⟩ = some (.bool x.has) ∧
      w.cell? ⟨(ad.add (j * 6)).block, (ad.add (j * 6)).off + 3, none⟩ = some (.int .u64 x.val) ∧ w.cell? ⟨(ad.add (j * 6)).block, (ad.add (j * 6)).off + 4, none⟩ = some (.slice d.Ab d.nb d.cb) ∧ w.cell? ⟨(ad.add (j * 6)).block, (ad.add (j * 6)).off + 5, none⟩ = some (.slice d.Ak d.nk d.ck) := by
  obtain ⟨ad, c, rfl, hlt, e1, _, g⟩ := h.at_ hj
  rw [he] at e1
  injection e1 with e1
  subst e1
  refine ⟨ad, rfl, hlt, ?_, ?_, ?_, ?_, ?_, ?_⟩
  · have := g 0 _ rfl; rwa [Nat.add_zero] at this
  · rw [show (⟨(ad.add (j * 6)).block, (ad.add (j * 6)).off + 1, none⟩ : Addr) = ad.add (j * 6 + 1) by rw [← add_of_add]; rfl]; exact g 1 _ rfl
  · rw [show (⟨(ad.add (j * 6)).block, (ad.add (j * 6)).off + 2, none⟩ : Addr) = ad.add (j * 6 + 2) by rw [← add_of_add]; rfl]; exact g 2 _ rfl
  · rw [show (⟨(ad.add (j * 6)).block, (ad.add (j * 6)).off + 3, none⟩ : Addr) = ad.add (j * 6 + 3) by rw [← add_of_add]; rfl]; exact g 3 _ rfl
  · rw [show (⟨(ad.add (j * 6)).block, (ad.add (j * 6)).off + 4, none⟩ : Addr) = ad.add (j * 6 + 4) by rw [← add_of_add]; rfl]; exact g 4 _ rfl
  · rw [show (⟨(ad.add (j * 6)).block, (ad.add (j * 6)).off + 5, none⟩ : Addr) = ad.add (j * 6 + 5) by rw [← add_of_add]; rfl]; exact g 5 _ rfl
end
def Fo.dep : Fo → Nat
  | .nil => 0
  | .cons _ _ k r => max (k.dep + 1) r.dep
theorem Fo.vis_dep : ∀ (f : Fo) (pw : List UInt8) (d m : Nat), (f.vis pw (d + 1)).foldl (fun m v => max m v.deep) m = if f.dep = 0 then m else max m (d + f.dep)
  | .nil, _, _, _ => rfl
  | .cons b x k r, pw, d, m => by
    rw [Fo.vis_cons, List.foldl_append]
    unfold tvis
    rw [List.foldl_cons, Fo.vis_dep k _ (d + 1), Fo.vis_dep r _ d]
    have h1 : (Fo.cons b x k r).dep = max (k.dep + 1) r.dep := rfl
    rw [h1, if_neg (show ¬ max (k.dep + 1) r.dep = 0 by omega)]
    show (if r.dep = 0 then (if k.dep = 0 then max m (d + 1) else max (max m (d + 1)) (d + 1 + k.dep)) else max (if k.dep = 0 then max m (d + 1) else max (max m (d + 1)) (d + 1 + k.dep)) (d + r.dep)) = max m (d + max (k.dep + 1) r.dep)
    by_cases hr : r.dep = 0
    · rw [if_pos hr]
      split <;> omega
    · rw [if_neg hr]
      split <;> omega
theorem dpV_dep (x : Nn) (k : Fo) : dpV (otvis (some (x, k))) = k.dep + 1 := by
  show (tvis x k [] 1).foldl (fun m v => max m v.deep) 0 = _
  unfold tvis
  rw [List.foldl_cons, Fo.vis_dep k _ 1]
  show (if k.dep = 0 then max 0 1 else max (max 0 1) (1 + k.dep)) = _
  split <;> omega

abbrev dArr (kd : Int) (d : Dv) (has : Bool) (val : Int) : Array Value := #[.int .i64 kd, .slice d.A d.n d.c, .bool has, .int .u64 val, .slice d.Ab d.nb d.cb, .slice d.Ak d.nk d.ck]
end Go.Proofs.YtidiinededalmaaGreat

namespace Go.Proofs.YtidiinededalmaaGreat
open Go.RowKit

/-- What a node tells with whose part the bytes begin, a bytes being taken off ahead of it. -/
def Nn.tell (x : Nn) (a : Nat) : Option (Nat × Int) := if x.has then some (a + x.part.length, x.val) else none
/-- The nodes that are gone into, from the kid by c on. -/
def Fo.goes : Fo → UInt8 → List UInt8 → Nat → List (Option (Nat × Int))
  | .nil, _, _, _ => []
  | .cons b x k r, c, l, a =>
    if b = c then
      (if begB l x.part = true then x.tell a :: (match l.drop x.part.length with
        | [] => []
        | c' :: l' => k.goes c' l' (a + x.part.length + 1))
      else [none])
    else r.goes c l a
/-- The nodes that are gone into, from the top one on. -/
def tgo (x : Nn) (k : Fo) (l : List UInt8) (a : Nat) : List (Option (Nat × Int)) :=
  if begB l x.part = true then x.tell a :: (match l.drop x.part.length with
    | [] => []
    | c' :: l' => k.goes c' l' (a + x.part.length + 1))
  else [none]
def ogo : Option (Nn × Fo) → List UInt8 → Nat → List (Option (Nat × Int))
  | none, _, _ => []
  | some t, l, a => tgo t.1 t.2 l a
def Fo.kid : Fo → UInt8 → Option (Nn × Fo)
  | .nil, _ => none
  | .cons b x k r, c => if b = c then some (x, k) else r.kid c
theorem Fo.goes_cons (b : UInt8) (x : Nn) (k r : Fo) (c : UInt8) (l : List UInt8) (a : Nat) : (Fo.cons b x k r).goes c l a = if b = c then tgo x k l a else r.goes c l a := by
  rw [Fo.goes]
  rfl
theorem Fo.goes_kid : ∀ (f : Fo) (c : UInt8) (l : List UInt8) (a : Nat), f.goes c l a = ogo (f.kid c) l a
  | .nil, _, _, _ => rfl
  | .cons b x k r, c, l, a => by
    rw [Fo.goes_cons, Fo.kid]
    split
    · rfl
    · exact Fo.goes_kid r c l a
theorem tgo_no {x : Nn} {k : Fo} {l : List UInt8} {a : Nat} (h : begB l x.part = false) : tgo x k l a = [none] := by
  unfold tgo
  rw [h]
  rfl
theorem tgo_end {x : Nn} {k : Fo} {l : List UInt8} {a : Nat} (h : begB l x.part = true) (hl : l.length = x.part.length) : tgo x k l a = [x.tell a] := by
  unfold tgo
  rw [if_pos h, List.drop_of_length_le (by omega)]
theorem tgo_on {x : Nn} {k : Fo} {l l' : List UInt8} {c : UInt8} {a : Nat} (h : begB l x.part = true) (hl : l.drop x.part.length = c :: l') : tgo x k l a = x.tell a :: ogo (k.kid c) l' (a + x.part.length + 1) := by
  unfold tgo
  rw [if_pos h, hl, ← Fo.goes_kid]
/-- The kid, in memory. -/
theorem Fo.Is.kid_ {w : World} {S : Nat → Prop} (c : UInt8) : ∀ {f : Fo} {es : List Ent}, f.Is w S es → Up es → OTre w S (f.kid c) (getE es c.toNat)
  | .nil, _, h, _ => by
    obtain rfl : _ = [] := h
    rfl
  | .cons b x k r, _, ⟨g, be, A, ek, er, e, h1, h2, h3, h4⟩, hu => by
    subst e
    obtain ⟨u1, u2⟩ := List.pairwise_cons.1 hu
    rw [Fo.kid]
    by_cases hb : b = c
    · subst hb
      rw [if_pos rfl]
      have : look ((b, some ⟨g, 0, none⟩) :: er) b.toNat = some (some ⟨g, 0, none⟩) := (look_some hu).2 ⟨_, List.mem_cons_self .., rfl, rfl⟩
      exact ⟨g, by unfold getE; rw [this]; rfl, be, A, ek, h1, h2, h3⟩
    · rw [if_neg hb]
      have hne : b.toNat ≠ c.toNat := fun q => hb (UInt8.toNat_inj.1 q)
      have : look ((b, some ⟨g, 0, none⟩) :: er) c.toNat = look er c.toNat := by
        rcases hx : look er c.toNat with _ | t
        · rw [look_none u2] at hx
          refine (look_none hu).2 fun e he q => ?_
          rcases List.mem_cons.1 he with rfl | he
          · exact hne q
          · exact hx e he q
        · obtain ⟨e, he, q1, q2⟩ := (look_some u2).1 hx
          exact (look_some hu).2 ⟨e, List.mem_cons_of_mem _ he, q1, q2⟩
      have ih := Fo.Is.kid_ c h4 u2
      unfold getE at ih ⊢
      rw [this]
      exact ih

/-- What bytes begin with: a part, and what stands behind it. -/
theorem beg_app {l p q : List UInt8} : begB l (p ++ q) = (begB l p && begB (l.drop p.length) q) := by
  induction p generalizing l with
  | nil => simp [begB, lcp]
  | cons u p ih =>
    cases l with
    | nil => simp [begB, lcp]
    | cons v l =>
      by_cases h : v = u
      · subst h
        have : ∀ m : List UInt8, begB (v :: l) (v :: m) = begB l m := fun m => by
          unfold begB
          rw [lcp_same, List.length_cons]
          exact decide_eq_decide.2 ⟨fun q => by omega, fun q => by omega⟩
        rw [List.cons_append, this, this, ih]
        rfl
      · have : ∀ m : List UInt8, begB (v :: l) (u :: m) = false := fun m => by
          unfold begB
          rw [lcp_ne h]
          exact decide_eq_false (by simp)
        rw [List.cons_append, this, this]
        rfl
theorem beg_nil (l : List UInt8) : begB l [] = true := by simp [begB, lcp]
theorem beg_cons {c b : UInt8} {l m : List UInt8} : begB (c :: l) (b :: m) = (decide (c = b) && begB l m) := by
  have := beg_app (l := c :: l) (p := [b]) (q := m)
  rw [List.singleton_append] at this
  rw [this]
  congr 1
  unfold begB
  by_cases h : c = b
  · subst h; rw [lcp_same]; simp [lcp]
  · rw [lcp_ne h, decide_eq_false h]; simp
theorem beg_short {b : UInt8} {m : List UInt8} : begB [] (b :: m) = false := by simp [begB, lcp]
theorem beg_whole {l m : List UInt8} (h : begB l m = true) (hl : l.length = m.length) : l = m := by
  unfold begB at h
  have h := of_decide_eq_true h
  have := lcp_take (p := l) (u := m) (e := m.length) (by omega)
  rw [List.drop_length, List.append_nil, List.take_of_length_le (by omega)] at this
  exact this.symm
theorem beg_len {l m : List UInt8} (h : begB l m = true) : m.length ≤ l.length := by
  have := lcp_le_left l m
  have h := of_decide_eq_true (h : decide _ = true)
  omega
theorem beg_self (l : List UInt8) : begB l l = true := decide_eq_true (lcp_same2 l)

/-- The pairs with whose keys the bytes begin, as they are told: how many bytes, the value. -/
def begsL (L : List KV) (l : List UInt8) (a : Nat) : List (Nat × Int) := (L.filter fun p => begB l p.1).map fun p => (a + p.1.length, p.2)
theorem begs_app (L M : List KV) (l : List UInt8) (a : Nat) : begsL (L ++ M) l a = begsL L l a ++ begsL M l a := by
  unfold begsL
  rw [List.filter_append, List.map_append]
theorem begs_none {L : List KV} {l : List UInt8} {a : Nat} (h : ∀ p ∈ L, begB l p.1 = false) : begsL L l a = [] := by
  unfold begsL
  rw [List.filter_eq_nil_iff.2 (fun p hp => by rw [h p hp]; simp)]
  rfl
/-- Behind a part with which the bytes begin. -/
theorem begs_part {L : List KV} {u l : List UInt8} {a : Nat} (h : begB l u = true) : begsL (L.map fun p => (u ++ p.1, p.2)) l a = begsL L (l.drop u.length) (a + u.length) := by
  unfold begsL
  rw [List.filter_map, List.map_map]
  have : ((fun p : KV => begB l p.1) ∘ fun p : KV => (u ++ p.1, p.2)) = fun p : KV => begB (l.drop u.length) p.1 := by
    funext p
    show begB l (u ++ p.1) = _
    rw [beg_app, h, Bool.true_and]
  rw [this]
  refine List.map_congr_left fun p _ => ?_
  show (a + (u ++ p.1).length, p.2) = _
  rw [List.length_append, Nat.add_assoc]
theorem begs_part_no {L : List KV} {u l : List UInt8} {a : Nat} (h : begB l u = false) : begsL (L.map fun p => (u ++ p.1, p.2)) l a = [] := begs_none fun p hp => by
  obtain ⟨q, _, rfl⟩ := List.mem_map.1 hp
  show begB l (u ++ q.1) = false
  rw [beg_app, h]
  rfl
theorem Fo.heads_nil {o : Int} {f : Fo} (h : f.wf o) : ∀ p ∈ f.list [], ∃ c t, p.1 = c :: t := by
  cases f with
  | nil => intro p hp; cases hp
  | cons b y k' r =>
    obtain ⟨g1, g2, g3, g4⟩ := h
    intro p hp
    rw [Fo.list_nil_cons] at hp
    rcases List.mem_append.1 hp with q | q
    · obtain ⟨u, _, rfl⟩ := List.mem_map.1 q
      exact ⟨b, u.1, rfl⟩
    · obtain ⟨c, t, e, _⟩ := Fo.heads g4 g1 p q
      exact ⟨c, t, e⟩
/-- The step at a node. -/
theorem tgo_step {o : Int} {x : Nn} {k : Fo} (hk : k.wf o) (ih' : ∀ c l a, (k.goes c l (a + 1)).filterMap id = begsL (k.list []) (c :: l) a) (l : List UInt8) (a : Nat) :
    (tgo x k l a).filterMap id = begsL (tlist x k []) l a := by
  rw [tlist_part, begs_app]
  have h0 : begsL (if x.has then [(x.part, x.val)] else []) l a = if begB l x.part = true then (x.tell a).toList else [] := by
    unfold begsL Nn.tell
    cases hh : x.has with
    | false => simp
    | true =>
      cases hb : begB l x.part with
      | true => simp [hb]
      | false => simp [hb]
  rw [h0]
  cases hb : begB l x.part with
  | false => rw [tgo_no hb, begs_part_no hb]; rfl
  | true =>
    rw [begs_part hb, if_pos rfl]
    rcases hd : l.drop x.part.length with _ | ⟨c, l'⟩
    · have hl := beg_len hb
      have : l.length ≤ x.part.length := by have := congrArg List.length hd; simp at this; omega
      rw [tgo_end hb (by omega), begs_none (fun p hp => by obtain ⟨c, t, e⟩ := Fo.heads_nil hk p hp; rw [e]; exact beg_short), List.append_nil]
      cases x.tell a <;> rfl
    · rw [tgo_on hb hd, ← Fo.goes_kid, ← ih']
      cases x.tell a <;> simp
theorem Fo.goes_begs {o : Int} : ∀ {f : Fo}, f.wf o → ∀ (c : UInt8) (l : List UInt8) (a : Nat), (f.goes c l (a + 1)).filterMap id = begsL (f.list []) (c :: l) a
  | .nil, _, _, _, _ => rfl
  | .cons b x k r, ⟨h1, _, h3, h4⟩, c, l, a => by
    rw [Fo.goes_cons, Fo.list_nil_cons, begs_app]
    by_cases hb : b = c
    · subst hb
      have e1 : begsL (r.list []) (b :: l) a = [] := begs_none fun p hp => by
        obtain ⟨c, t, e, hc⟩ := Fo.heads h4 h1 p hp
        rw [e, beg_cons, decide_eq_false (fun q => by subst q; omega)]
        rfl
      have hs : begB (b :: l) [b] = true := by rw [beg_cons, decide_eq_true rfl, beg_nil]; rfl
      have e2 := begs_part (L := tlist x k []) (a := a) hs
      rw [if_pos rfl, e1, List.append_nil, tgo_step h3 (Fo.goes_begs h3)]
      exact e2.symm
    · have hs : begB (c :: l) [b] = false := by rw [beg_cons, decide_eq_false (fun q => hb q.symm)]; rfl
      have e2 := begs_part_no (L := tlist x k []) (a := a) hs
      rw [if_neg hb, Fo.goes_begs h4]
      have e3 : begsL ((tlist x k []).map fun p => (b :: p.1, p.2)) (c :: l) a = [] := e2
      rw [e3, List.nil_append]
/-- P14.3, in full: what is told is what the tree's pairs say. -/
theorem tgo_begs {o : Int} {x : Nn} {k : Fo} (hk : k.wf o) (l : List UInt8) (a : Nat) : (tgo x k l a).filterMap id = begsL (tlist x k []) l a := tgo_step hk (Fo.goes_begs hk) l a

/-- Not more nodes are gone into than there are bytes, and one. -/
theorem Fo.goes_len : ∀ (f : Fo) (c : UInt8) (l : List UInt8) (a : Nat), (f.goes c l a).length ≤ l.length + 1
  | .nil, _, _, _ => Nat.zero_le _
  | .cons b x k r, c, l, a => by
    rw [Fo.goes]
    split
    · split
      · rename_i h
        have hb := beg_len h
        rcases hd : l.drop x.part.length with _ | ⟨c', l'⟩
        · simp
        · have h2 := Fo.goes_len k c' l' (a + x.part.length + 1)
          have h3 := congrArg List.length hd
          simp only [List.length_drop, List.length_cons] at h3 ⊢
          omega
      · simp
    · exact Fo.goes_len r c l a
theorem tgo_len (x : Nn) (k : Fo) (l : List UInt8) (a : Nat) : (tgo x k l a).length ≤ l.length + 1 := by
  have := Fo.goes_len (.cons 0 x k .nil) 0 l a
  rwa [Fo.goes_cons, if_pos rfl] at this
/-- Nor than the tree is deep. -/
theorem Fo.goes_dep : ∀ (f : Fo) (c : UInt8) (l : List UInt8) (a : Nat), (f.goes c l a).length ≤ f.dep
  | .nil, _, _, _ => Nat.zero_le _
  | .cons b x k r, c, l, a => by
    have e : (Fo.cons b x k r).dep = max (k.dep + 1) r.dep := rfl
    rw [Fo.goes, e]
    split
    · split
      · rcases hd : l.drop x.part.length with _ | ⟨c', l'⟩
        · simp; omega
        · have h2 := Fo.goes_dep k c' l' (a + x.part.length + 1)
          simp only [List.length_cons]
          omega
      · simp; omega
    · have := Fo.goes_dep r c l a
      omega
theorem tgo_dep (x : Nn) (k : Fo) (l : List UInt8) (a : Nat) : (tgo x k l a).length ≤ k.dep + 1 := by
  have := Fo.goes_dep (.cons 0 x k .nil) 0 l a
  rw [Fo.goes_cons, if_pos rfl] at this
  have e : (Fo.cons 0 x k .nil).dep = max (k.dep + 1) 0 := rfl
  omega
theorem tgo_pos (x : Nn) (k : Fo) (l : List UInt8) (a : Nat) : tgo x k l a ≠ [] := by
  unfold tgo
  split <;> simp
/-- What is told first of all are none of fewer bytes. -/
theorem ogo_len (t : Option (Nn × Fo)) (l : List UInt8) (a : Nat) : (ogo t l a).length ≤ l.length + 1 := by
  cases t with
  | none => exact Nat.zero_le _
  | some t => exact tgo_len _ _ _ _

/-- A tree's pairs, or nothing's. -/
def olist : Option (Nn × Fo) → List KV
  | none => []
  | some t => tlist t.1 t.2 []
def owf : Option (Nn × Fo) → Prop
  | none => True
  | some t => t.2.wf 1
theorem ogo_begs {t : Option (Nn × Fo)} (h : owf t) (l : List UInt8) (a : Nat) : (ogo t l a).filterMap id = begsL (olist t) l a := by
  cases t with
  | none => rfl
  | some t => exact tgo_begs h l a
theorem olist_rise {t : Option (Nn × Fo)} (h : owf t) : Rise (olist t) := by
  cases t with
  | none => exact List.Pairwise.nil
  | some t => exact tree_rise h (Fo.rise h)
/-- What Get tells, of what is told of the beginnings: that of as many bytes as there are. -/
def getF (L : List (Nat × Int)) (n : Nat) : Int × Bool := L.foldl (fun s p => if p.1 = n then (p.2, true) else s) (0, false)
def getK (L : List KV) (l : List UInt8) : Int × Bool := L.foldl (fun s p => if p.1 = l then (p.2, true) else s) (0, false)
theorem getK_begs (L : List KV) (l : List UInt8) : getF (begsL L l 0) l.length = getK L l := by
  unfold getF getK begsL
  generalize ((0, false) : Int × Bool) = s
  induction L generalizing s with
  | nil => rfl
  | cons p L ih =>
    rw [List.filter_cons]
    by_cases hb : begB l p.1 = true
    · rw [if_pos hb, List.map_cons, List.foldl_cons, List.foldl_cons, ← ih]
      congr 1
      by_cases hl : p.1 = l
      · rw [if_pos hl, if_pos (by rw [hl]; simp)]
      · rw [if_neg hl, if_neg (fun q => hl (beg_whole hb (by simp at q; omega)).symm)]
    · rw [if_neg hb, List.foldl_cons, ← ih, if_neg (fun q => hb (by rw [q]; exact beg_self l))]
theorem getK_none {L : List KV} {l : List UInt8} (h : ∀ p ∈ L, p.1 ≠ l) : getK L l = (0, false) := by
  unfold getK
  generalize ((0, false) : Int × Bool) = s
  induction L generalizing s with
  | nil => rfl
  | cons p L ih =>
    rw [List.foldl_cons, if_neg (h p (List.mem_cons_self ..))]
    exact ih (fun q hq => h q (List.mem_cons_of_mem _ hq)) s
theorem getK_app (L M : List KV) (l : List UInt8) (h : ∀ p ∈ M, p.1 ≠ l) : getK (L ++ M) l = getK L l := by
  unfold getK
  rw [List.foldl_append]
  generalize L.foldl _ _ = s
  induction M generalizing s with
  | nil => rfl
  | cons p M ih =>
    rw [List.foldl_cons, if_neg (h p (List.mem_cons_self ..))]
    exact ih (fun q hq => h q (List.mem_cons_of_mem _ hq)) s
theorem lt_irr (l : List UInt8) : ¬ cmpL l l < 0 := fun h => by
  induction l with
  | nil => exact lt_nil h
  | cons u l ih =>
    rw [lt_cons] at h
    rcases h with h | ⟨_, h⟩
    · omega
    · exact ih h
/-- Where keys rise, the one that is there is told. -/
theorem getK_at {L : List KV} (h : Rise L) {i : Nat} {p : KV} (hi : L[i]? = some p) : getK L p.1 = (p.2, true) := by
  obtain ⟨hl, hp⟩ := List.getElem?_eq_some_iff.1 hi
  have e : L = L.take i ++ [p] ++ L.drop (i + 1) := by
    rw [List.append_assoc, List.singleton_append, ← hp, List.getElem_cons_drop]
    exact (List.take_append_drop i L).symm
  have h2 : ∀ q ∈ L.drop (i + 1), q.1 ≠ p.1 := fun q hq hqe => by
    obtain ⟨j, hj⟩ := List.mem_iff_getElem?.1 hq
    rw [List.getElem?_drop] at hj
    obtain ⟨hl2, e2⟩ := List.getElem?_eq_some_iff.1 hj
    have := List.pairwise_iff_getElem.1 h i (i + 1 + j) hl hl2 (by omega)
    rw [e2, hqe, hp] at this
    exact lt_irr _ this
  rw [e, getK_app _ _ _ h2]
  unfold getK
  rw [List.foldl_append]
  simp
theorem getK_mem {L : List KV} (h : Rise L) {p : KV} (hp : p ∈ L) : getK L p.1 = (p.2, true) := by
  obtain ⟨i, hi⟩ := List.mem_iff_getElem?.1 hp
  exact getK_at h hi
/-- What is told is of no more bytes than there are. -/
theorem Fo.goes_le : ∀ (f : Fo) (c : UInt8) (l : List UInt8) (a : Nat), ∀ e ∈ f.goes c l a, ∀ s v, e = some (s, v) → s ≤ a + l.length
  | .nil, _, _, _, e, he, _, _, _ => by cases he
  | .cons b x k r, c, l, a, e, he, s, v, hs => by
    rw [Fo.goes] at he
    split at he
    · split at he
      · rename_i h
        have hb := beg_len h
        rcases List.mem_cons.1 he with rfl | he
        · unfold Nn.tell at hs
          split at hs
          · injection hs with hs
            injection hs with hs _
            omega
          · cases hs
        · rcases hd : l.drop x.part.length with _ | ⟨c', l'⟩
          · rw [hd] at he; cases he
          · rw [hd] at he
            have h2 := Fo.goes_le k c' l' (a + x.part.length + 1) e he s v hs
            have h3 := congrArg List.length hd
            simp only [List.length_drop, List.length_cons] at h3
            omega
      · simp at he
        subst he
        cases hs
    · exact Fo.goes_le r c l a e he s v hs
theorem ogo_le (t : Option (Nn × Fo)) (l : List UInt8) (a : Nat) : ∀ p ∈ (ogo t l a).filterMap id, p.1 ≤ a + l.length := by
  intro p hp
  obtain ⟨e, he, h1⟩ := List.mem_filterMap.1 hp
  cases t with
  | none => cases he
  | some t =>
    obtain ⟨x, k⟩ := t
    have := Fo.goes_le (.cons 0 x k .nil) 0 l a e (by rw [Fo.goes_cons, if_pos rfl]; exact he) p.1 p.2 h1
    exact this
/-- What Longest tells: the last one of all. -/
def lastF (L : List (Nat × Int)) : Nat × Int × Bool := L.foldl (fun _ p => (p.1, p.2, true)) (0, 0, false)
theorem lastF_snoc (L : List (Nat × Int)) (a : Nat) (v : Int) : lastF (L ++ [(a, v)]) = (a, v, true) := by
  unfold lastF
  rw [List.foldl_append]
  rfl
theorem lastF_cases (L : List (Nat × Int)) : (L = [] ∧ lastF L = (0, 0, false)) ∨ ∃ M p, L = M ++ [p] ∧ lastF L = (p.1, p.2, true) := by
  rcases List.eq_nil_or_concat L with h | ⟨M, p, h⟩
  · subst h
    exact .inl ⟨rfl, rfl⟩
  · rw [List.concat_eq_append] at h
    subst h
    exact .inr ⟨M, p, rfl, lastF_snoc M p.1 p.2⟩
theorem lastF_le {L : List (Nat × Int)} {m : Nat} (h : ∀ p ∈ L, p.1 ≤ m) : (lastF L).1 ≤ m := by
  rcases lastF_cases L with ⟨_, e⟩ | ⟨M, p, e, e2⟩
  · rw [e]; exact Nat.zero_le _
  · rw [e2]
    exact h p (by rw [e]; simp)
end Go.Proofs.YtidiinededalmaaGreat

namespace Go.Proofs.YtidiinededalmaaGreat
open Go.RowKit

def firstK : List KV → List UInt8 → Int × Bool
  | [], _ => (0, false)
  | p :: L, l => if p.1 = l then (p.2, true) else firstK L l
theorem firstK_cases (L : List KV) (l : List UInt8) : ((∀ p ∈ L, p.1 ≠ l) ∧ firstK L l = (0, false)) ∨ ∃ p ∈ L, p.1 = l ∧ firstK L l = (p.2, true) := by
  induction L with
  | nil => exact .inl ⟨fun _ h => (by cases h), rfl⟩
  | cons p L ih =>
    by_cases h : p.1 = l
    · exact .inr ⟨p, List.mem_cons_self .., h, by rw [firstK, if_pos h]⟩
    · rcases ih with ⟨h1, h2⟩ | ⟨q, h1, h2, h3⟩
      · refine .inl ⟨fun q hq => ?_, by rw [firstK, if_neg h]; exact h2⟩
        rcases List.mem_cons.1 hq with rfl | hq
        · exact h
        · exact h1 q hq
      · exact .inr ⟨q, List.mem_cons_of_mem _ h1, h2, by rw [firstK, if_neg h]; exact h3⟩
theorem first_get {L : List KV} (h : Rise L) (l : List UInt8) : firstK L l = getK L l := by
  rcases firstK_cases L l with ⟨h1, h2⟩ | ⟨p, h1, rfl, h3⟩
  · rw [h2, getK_none h1]
  · rw [h3, getK_mem h h1]
end Go.Proofs.YtidiinededalmaaGreat
