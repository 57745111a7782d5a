/-
  What writes to a node: who may, what it leaves.
  What makes a node: Leaf, Inner, Copy, Own.
  Nodes side by side, no block of one among the others' own: what is done with one leaves the others; what is made comes behind them.
-/
import Derived.Test.YtajpipaooaemdaaGreatDoorNd
namespace Go.Proofs.YtajpipaooaemdaaGreatDoor
open Go.RowKit

/-- Whether who hands over o may write to what own owns. -/
def mineB (ow o : Int) : Bool := o != 0 && o == ow
def closN (x : Nd) (o : Int) : Int := if mineB x.ow o then 0 else 11
def closIN (x : Nd) (o : Int) : Int := if mineB x.ow o then (if x.leaf then 9 else 0) else 11
theorem mine_yes {ow o : Int} (h0 : o ≠ 0) (h : o = ow) : mineB ow o = true := by subst h; simp [mineB, h0]
theorem mine_zero (ow : Int) : mineB ow 0 = false := by simp [mineB]
theorem mine_no {ow o : Int} (h : o ≠ ow) : mineB ow o = false := by simp [mineB, h]

section
variable {w w' : World} {g : Nat} {x : Nd} {b : Be} {A : Option Addr}
set_option maxRecDepth 100000 in
theorem belongs_any (h : Nod w g x b A) (o : Int) : Calls Tryz.prog 93 #[.pointer (some ⟨g, 0, none⟩), .int .u64 o] w fun e w' => e = .returned (.bool (mineB x.ow o)) ∧ w' = w := by
  have H1 := Lib.hid (owner_any h)
  clear h
  by_cases h0 : o = 0
  · subst h0
    rw [mine_zero]
    clear H1
    go_enter Tryz.func93, Tryz.ntmps93
    go_wp2
    go_ret
    exact ⟨rfl, rfl⟩
  · generalize x.ow = q at H1 ⊢
    go_enter Tryz.func93, Tryz.ntmps93
    go_wp2_with fail
    (with_reducible refine H1.out.mono ?_)
    rintro e w1 ⟨rfl, rfl⟩
    go_wp2
    go_ret
    exact ⟨rfl, rfl⟩

theorem isN_pos (l : Bool) : ∃ i : Int, isN l = i ∧ ¬ i = 0 := by cases l <;> exact ⟨_, rfl, by decide⟩
set_option maxRecDepth 100000 in
theorem closed_any (h : Nod w g x b A) (o : Int) : Calls Tryz.prog 75 #[.pointer (some ⟨g, 0, none⟩), .int .u64 o] w fun e w' => e = .returned (.int .i64 (closN x o)) ∧ w' = w := by
  have H1 := Lib.hid (what_any h)
  have H2 := Lib.hid (belongs_any h o)
  obtain ⟨i, hi, hi0⟩ := isN_pos x.leaf
  rw [hi] at H1
  clear h hi
  unfold closN
  cases hm : mineB x.ow o
  all_goals
    rw [hm] at H2
    clear hm
    go_enter Tryz.func75, Tryz.ntmps75
    go_wp2_with fail
    (with_reducible refine H1.out.mono ?_)
    rintro e w1 ⟨rfl, rfl⟩
    go_wp2_with fail
    (with_reducible refine H2.out.mono ?_)
    rintro e w1 ⟨rfl, rfl⟩
    go_wp2
    go_ret
    exact ⟨rfl, rfl⟩
set_option maxRecDepth 100000 in
theorem closedInner_any (h : Nod w g x b A) (o : Int) : Calls Tryz.prog 91 #[.pointer (some ⟨g, 0, none⟩), .int .u64 o] w fun e w' => e = .returned (.int .i64 (closIN x o)) ∧ w' = w := by
  have H1 := Lib.hid (closed_any h o)
  have hc := h.is_
  clear h
  unfold closN at H1
  unfold closIN
  obtain ⟨lf, ow, pt, vl, hs, es⟩ := x
  simp only at hc H1 ⊢
  cases hm : mineB ow o with
  | false =>
    rw [hm] at H1
    simp only [Bool.false_eq_true, if_false] at H1 ⊢
    clear hm hc
    go_enter Tryz.func91, Tryz.ntmps91
    go_wp2_with fail
    (with_reducible refine H1.out.mono ?_)
    rintro e w1 ⟨rfl, rfl⟩
    go_wp2
    go_ret
    exact ⟨rfl, rfl⟩
  | true =>
    rw [hm] at H1
    simp only [if_true] at H1 ⊢
    clear hm
    cases lf with
    | true =>
      rw [show isN true = 1 from rfl] at hc
      go_enter Tryz.func91, Tryz.ntmps91
      go_wp2_with fail
      (with_reducible refine H1.out.mono ?_)
      rintro e w1 ⟨rfl, rfl⟩
      go_wp2
      go_ret
      exact ⟨rfl, rfl⟩
    | false =>
      rw [show isN false = 2 from rfl] at hc
      go_enter Tryz.func91, Tryz.ntmps91
      go_wp2_with fail
      (with_reducible refine H1.out.mono ?_)
      rintro e w1 ⟨rfl, rfl⟩
      go_wp2
      go_ret
      exact ⟨rfl, rfl⟩

theorem NdPost.same (h : Nod w g x b A) : NdPost w w g x b A x.part := ⟨b, A, h, fun _ q => .inl q, fun _ q => .inl q, Kept.refl _ _⟩
/-- One cell of its own block is written, and one more. -/
theorem NdPost.cells {x' : Nd} (h : Nod w g x b A) (hl : x'.leaf = x.leaf) (hp : x'.part = x.part) (he : x'.es = x.es) (hk : Kept (· = g) w w') (hb : ∀ c, Blk w g (ndC x A x.part.length c b) → Blk w' g (ndC x' A x.part.length c b)) : NdPost w w' g x' b A x.part := by
  obtain ⟨c, hc⟩ := h.blk
  refine ⟨b, A, ⟨⟨c, ?_⟩, ?_, by rw [hp]; exact h.short, ?_, h.ne, by rw [hp]; exact h.far⟩, fun _ q => .inl q, fun i q => .inl (hp ▸ q), hk.mono (fun i q => .inl q)⟩
  · have := hb c hc; rwa [hp]
  · rw [hp]
    exact (h.byt.keepPb fun p hq => hk.cell (h.ltA hq) (fun e => (h.far _ hq).1 e)).more hk.size
  · rw [hl, he]
    exact h.kids.kept hk (fun i hi e => h.ne (e ▸ hi))

/-- Its value is v, if o may. -/
def nSetVal (x : Nd) (o v : Int) : Nd := if mineB x.ow o then { x with has := true, val := v } else x
set_option maxRecDepth 100000 in
theorem nsetval_any (h : Nod w g x b A) (o v : Int) : Calls Tryz.prog 69 #[.pointer (some ⟨g, 0, none⟩), .int .u64 o, .int .u64 v] w fun e w' => e = .returned (.int .i64 (closN x o)) ∧ NdPost w w' g (nSetVal x o v) b A x.part := by
  have H1 := Lib.hid (closed_any h o)
  unfold closN at H1 ⊢
  unfold nSetVal
  cases hm : mineB x.ow o with
  | false =>
    rw [hm] at H1
    simp only [Bool.false_eq_true, if_false] at H1 ⊢
    have HE := Lib.hid (NdPost.same h)
    clear hm h
    go_enter Tryz.func69, Tryz.ntmps69
    go_wp2_with fail
    (with_reducible refine H1.out.mono ?_)
    rintro e w1 ⟨rfl, rfl⟩
    go_wp2
    go_ret
    exact ⟨rfl, HE.out⟩
  | true =>
    rw [hm] at H1
    simp only [if_true] at H1 ⊢
    have c1 := h.val_
    have c2 := h.has_
    have z := h.fz
    have HE := Lib.hid (show NdPost w ((w.setCell ⟨g, 3, none⟩ (.int .u64 v)).setCell ⟨g, 4, none⟩ (.bool true)) g { x with has := true, val := v } b A x.part from
      NdPost.cells h rfl rfl rfl ((Kept.set_ (D := (· = g)) _ _ _ rfl).trans (Kept.set_ (D := (· = g)) _ _ _ rfl)) (fun c hb => by simpa [ndC] using (hb.set_ 3 (.int .u64 v)).set_ 4 (.bool true)))
    clear hm h
    go_enter Tryz.func69, Tryz.ntmps69
    go_wp2_with fail
    (with_reducible refine H1.out.mono ?_)
    rintro e w1 ⟨rfl, rfl⟩
    go_wp2
    go_ret
    exact ⟨rfl, HE.out⟩

/-- What DropVal says, and what it leaves. -/
def dropVN (x : Nd) (o : Int) : Int := if mineB x.ow o then (if x.leaf then 9 else if x.has then 0 else 6) else 11
def nDropVal (x : Nd) (o : Int) : Nd := if mineB x.ow o && !x.leaf && x.has then { x with has := false, val := 0 } else x
/-- Its part is l, if o may. -/
def nSetPart (x : Nd) (o : Int) (l : List UInt8) : Nd := if mineB x.ow o then { x with part := l } else x
set_option maxRecDepth 100000 in
theorem nsetpart_any (h : Nod w g x b A) (o : Int) (A' : Option Addr) (n c B : Nat) (l : List UInt8) (ha : Byt w B A' n l) (hB : B ≤ w.heap.size) (hn : n ≤ 140737488355328) :
    Calls Tryz.prog 52 #[.pointer (some ⟨g, 0, none⟩), .int .u64 o, .slice A' n c] w fun e w' => e = .returned (.int .i64 (closN x o)) ∧ NdPost w w' g (nSetPart x o l) b A x.part := by
  obtain rfl : l.length = n := ha.1
  have H1 := Lib.hid (closed_any h o)
  unfold closN at H1 ⊢
  unfold nSetPart
  cases hm : mineB x.ow o with
  | false =>
    rw [hm] at H1
    simp only [Bool.false_eq_true, if_false] at H1 ⊢
    have HE := Lib.hid (NdPost.same h)
    clear hm h ha
    go_enter Tryz.func52, Tryz.ntmps52
    go_wp2_with fail
    (with_reducible refine H1.out.mono ?_)
    rintro e w1 ⟨rfl, rfl⟩
    go_wp2
    go_ret
    exact ⟨rfl, HE.out⟩
  | true =>
    rw [hm] at H1
    simp only [if_true] at H1 ⊢
    have H2 := Lib.hid (bclone_any A' l.length c B l w ha hB hn)
    have HN := Lib.hid h
    clear hm h ha
    go_enter Tryz.func52, Tryz.ntmps52
    go_wp2_with fail
    (with_reducible refine H1.out.mono ?_)
    rintro e w1 ⟨rfl, rfl⟩
    go_wp2_with fail
    (with_reducible refine H2.out.mono ?_)
    rintro e w2 ⟨A2, c2, rfl, y1, y2, k⟩
    have hN := HN.out.below k
    obtain ⟨cc, hb⟩ := hN.blk
    have c1 : w2.cell? ⟨g, 2, none⟩ = some (.slice A x.part.length cc) := hb.cell 2
    have z := hN.fz
    have ks : Kept (· = g) w2 (w2.setCell ⟨g, 2, none⟩ (.slice A2 l.length c2)) := Kept.set_ _ _ _ rfl
    have HE := Lib.hid (show NdPost w1 (w2.setCell ⟨g, 2, none⟩ (.slice A2 l.length c2)) g { x with part := l } b A x.part by
      refine ⟨b, A2, ⟨⟨c2, ?_⟩, ?_, by omega, ?_, HN.out.ne, fun i hi => ⟨fun e => ?_, fun q => ?_⟩⟩, fun _ q => .inl q, fun i q => .inr (y2 i q), (Kept.of_below k).trans (ks.mono (fun i q => .inl q))⟩
      · simpa [ndC] using hb.set_ 2 (.slice A2 l.length c2)
      · exact (y1.keepPb fun p hq => ks.cell (y1.ltPb hq) (fun e => by have := y2 _ hq; have := HN.out.lt0; omega)).more ks.size
      · exact hN.kids.kept ks (fun i hi e => HN.out.ne (e ▸ hi))
      · have := y2 i hi; have := HN.out.lt0; omega
      · have := y2 i hi; have := HN.out.lt (.inr q); omega)
    clear hN hb ks y1 y2 k
    go_wp2
    go_ret
    exact ⟨rfl, HE.out⟩

theorem NdPost.kids {k : Nat} {o : Ho} {es' : List Ent} (h : Nod w g x (.at_ k o) A) (hl : x.leaf = false) (hp : KdPost w w' k o es') : NdPost w w' g { x with es := es' } (.at_ k o) A x.part := by
  obtain ⟨o', k1, k2, k3⟩ := hp
  have hk := h.kids.2
  have hD : ∀ i, (Be.at_ k o').D i → (Be.at_ k o).D i ∨ w.heap.size ≤ i := fun i hi => by
    rcases hi with rfl | hi
    · exact .inl (.inl rfl)
    · rcases k2 i hi with q | q
      · exact .inl (.inr q)
      · exact .inr q
  obtain ⟨c, hb⟩ := h.blk
  refine ⟨.at_ k o', A, ⟨⟨c, k3.blk hb h.ne⟩, ?_, h.short, ⟨hl, k1⟩, fun q => ?_, fun i hi => ⟨(h.far i hi).1, fun q => ?_⟩⟩, hD, fun _ q => .inl q, k3.mono (fun i q => .inr q)⟩
  · exact (h.byt.keepPb fun p hq => k3.cell (h.ltA hq) (h.far _ hq).2).more k3.size
  · rcases hD _ q with q | q
    · exact h.ne q
    · have := h.lt0; omega
  · rcases hD _ q with q | q
    · exact (h.far i hi).2 q
    · have := h.ltA hi; omega

/-- What DropKid says, and what it leaves. -/
def dropKN (x : Nd) (o : Int) (c : UInt8) : Int := if mineB x.ow o then (if x.leaf then 9 else dropN x.es c) else 11
def nDropKid (x : Nd) (o : Int) (c : UInt8) : Nd := if mineB x.ow o && !x.leaf then { x with es := dropE x.es c } else x
/-- What SetKid says, and what it leaves. -/
def setKN (x : Nd) (o : Int) (k : Th) : Int := if mineB x.ow o then (if x.leaf then 9 else if k.isSome then 0 else 1) else 11
def nSetKid (x : Nd) (o : Int) (c : UInt8) (k : Th) : Nd := if mineB x.ow o && !x.leaf && k.isSome then { x with es := setE x.es c k } else x
set_option maxRecDepth 100000 in
theorem nsetkid_any (h : Nod w g x b A) (o : Int) (c : UInt8) (z : Int) (hz : z = (c.toNat : Int)) (kd : Th)
    (hk : ∀ a, kd = some a → ∃ i : Int, ¬ i = 0 ∧ Calls Tryz.prog 54 #[.pointer kd] w fun e w' => e = .returned (.int .i64 i) ∧ w' = w) :
    Calls Tryz.prog 71 #[.pointer (some ⟨g, 0, none⟩), .int .u64 o, .int .u8 z, .pointer kd] w fun e w' => e = .returned (.int .i64 (setKN x o kd)) ∧ NdPost w w' g (nSetKid x o c kd) b A x.part := by
  subst hz
  have H1 := Lib.hid (closedInner_any h o)
  have HS := Lib.hid (NdPost.same h)
  unfold closIN at H1
  unfold setKN nSetKid
  by_cases hc : mineB x.ow o = true ∧ x.leaf = false
  · obtain ⟨hm, hl⟩ := hc
    have HL := Lib.hid hl
    rw [hm, hl] at H1
    rw [hm, hl]
    simp only [Bool.false_eq_true, if_false, if_true, Bool.not_false, Bool.and_true, Bool.true_and] at H1 ⊢
    cases kd with
    | none =>
      have H2 := Lib.hid (what_nil w)
      simp only [Option.isSome_none, Bool.false_eq_true, if_false]
      clear h hm hl hk
      go_enter Tryz.func71, Tryz.ntmps71
      go_wp2_with fail
      (with_reducible refine H1.out.mono ?_)
      rintro e w1 ⟨rfl, rfl⟩
      go_wp2_with fail
      (with_reducible refine H2.out.mono ?_)
      rintro e w1 ⟨rfl, rfl⟩
      go_wp2
      go_ret
      exact ⟨rfl, HS.out⟩
    | some a =>
      obtain ⟨i, hi, hw⟩ := hk a rfl
      have H2 := Lib.hid hw
      simp only [Option.isSome_some, if_true]
      cases b with
      | non => have := h.kids.1; rw [hl] at this; cases this
      | at_ k o' =>
        have c5 := h.kid_
        have H3 := Lib.hid (kset_any h.kids.2 c (some a) _ rfl)
        have HK := Lib.hid (fun w' => NdPost.kids (w' := w') (es' := setE x.es c (some a)) h hl)
        rw [show (Be.at_ k o').ptr = .pointer (some ⟨k, 0, none⟩) from rfl] at c5
        clear h hm hl HS hk hw
        go_enter Tryz.func71, Tryz.ntmps71
        go_wp2_with fail
        (with_reducible refine H1.out.mono ?_)
        rintro e w1 ⟨rfl, rfl⟩
        go_wp2_with fail
        (with_reducible refine H2.out.mono ?_)
        rintro e w1 ⟨rfl, rfl⟩
        go_wp2_with fail
        (with_reducible refine H3.out.mono ?_)
        rintro e w2 ⟨rfl, hp⟩
        have he := HK.out _ hp
        rw [HL.out] at he
        have HE := Lib.hid he
        clear hp he
        go_wp2
        go_ret
        exact ⟨rfl, HE.out⟩
  · obtain ⟨i, hi, hi0⟩ : ∃ i : Int, (if mineB x.ow o = true then if x.leaf = true then (9 : Int) else 0 else 11) = i ∧ ¬ i = 0 := by
      cases hm : mineB x.ow o <;> cases hl : x.leaf <;> simp [hm, hl] at hc ⊢
    have e1 : (if mineB x.ow o = true then if x.leaf = true then (9 : Int) else if kd.isSome = true then 0 else 1 else 11) = i := by
      rw [← hi]
      cases hm : mineB x.ow o <;> cases hl : x.leaf <;> simp [hm, hl] at hc ⊢
    have e2 : (mineB x.ow o && !x.leaf && kd.isSome) = false := by
      cases hm : mineB x.ow o <;> cases hl : x.leaf <;> simp [hm, hl] at hc ⊢
    rw [hi] at H1
    rw [e1, e2]
    simp only [Bool.false_eq_true, if_false]
    clear h hc hi e1 e2 hk
    go_enter Tryz.func71, Tryz.ntmps71
    go_wp2_with fail
    (with_reducible refine H1.out.mono ?_)
    rintro e w1 ⟨rfl, rfl⟩
    go_wp2
    go_ret
    exact ⟨rfl, HS.out⟩
end
end Go.Proofs.YtajpipaooaemdaaGreatDoor

namespace Go.Proofs.YtajpipaooaemdaaGreatDoor
open Go.RowKit

/-- What is handed back where a node is made. -/
def MkPost (w : World) (m : Option Nat) (rest : List Value) (cnt : Int) (x : Nd) (A0 : Option Addr) (l0 : List UInt8) (e : Ending) (w' : World) : Prop :=
  ∃ g, e = .returned (.pointer (some ⟨g, 0, none⟩)) ∧ NwPost w w' m g x A0 l0 ∧ ∀ q, m = some q → Lst w' q (.int .i64 (cnt + 1) :: rest)
set_option maxRecDepth 100000 in
theorem node_size : (Tryz.prog.info? 77).map (·.size) = some 6 := by kernel_rfl

section
variable {w w' : World} {g : Nat} {x : Nd} {b : Be} {A : Option Addr} {rest : List Value}
/-- A node's block that is new, its kids and its part that are there already. -/
theorem NwPost.box {w1 w2 : World} {m : Option Nat} {c : Nat} {ty : TypeId} {A0 : Option Addr} {l0 : List UInt8} (hm : Kept (fun i => m = some i) w w1) (hb : Below w1.heap.size w1 w2)
    (hp : Byt w2 w2.heap.size A x.part.length x.part) (hs : x.part.length ≤ 140737488355328) (hk : b.Is w2 x.leaf x.es) (hn : ∀ i, b.D i → w.heap.size ≤ i) (hA : ∀ i, Pb A x.part i → (Pb A0 l0 i ∨ w.heap.size ≤ i) ∧ ¬ b.D i) :
    NwPost w (w2.alloc (.cells (ndC x A x.part.length c b) ty)) m w2.heap.size x A0 l0 := by
  have b2 : Below w2.heap.size w2 (w2.alloc (.cells (ndC x A x.part.length c b) ty)) := (Below.refl _ _).alloc (Nat.le_refl _) _
  have h1 := hm.size
  have h2 := hb.size
  refine ⟨b, A, ⟨⟨c, Blk.new _ _ _⟩, (hp.below b2).more b2.size, hs, hk.kept (D := fun _ => False) (Kept.of_below b2) (fun _ _ q => q), fun q => ?_, fun i hi => ⟨fun e => ?_, (hA i hi).2⟩⟩, fun i hi => ?_, fun i hi => (hA i hi).1, ?_⟩
  · have := hk.lt q; omega
  · have := hp.ltPb hi; omega
  · rcases hi with rfl | hi
    · omega
    · exact hn i hi
  · exact (hm.trans' (D' := fun _ => False) (Kept.of_below hb) (fun _ _ q => q)).trans' (D' := fun _ => False) (Kept.of_below b2) (fun _ _ q => q)

set_option maxRecDepth 100000 in
theorem nleaf_any (m : Option Nat) (cnt o v : Int) (n c B : Nat) (l : List UInt8) (w : World) (hm : Mt w m rest cnt) (ha : Byt w B A n l) (hB : B ≤ w.heap.size) (hn : n ≤ 140737488355328) (hd : ∀ i, Pb A l i → m ≠ some i) :
    Calls Tryz.prog 20 #[mtr m, .int .u64 o, .slice A n c, .int .u64 v] w (MkPost w m rest cnt ⟨true, o, l, v, true, []⟩ none []) := by
  obtain rfl : l.length = n := ha.1
  have H1 := Lib.hid (made_one m cnt w hm)
  have HA := Lib.hid ha
  generalize hq : mtr m = q at H1 ⊢
  clear ha hm hq
  go_enter Tryz.func20, Tryz.ntmps20
  go_wp2_with fail
  (with_reducible refine H1.out.mono ?_)
  rintro e w1 ⟨rfl, hc, hk⟩
  have hA1 : Byt w1 w1.heap.size A l.length l := ((HA.out.more hB).keepPb fun p hp => hk.cell (by have := HA.out.ltPb hp; omega) (hd _ hp)).more hk.size
  have H2 := Lib.hid (bclone_any A l.length c w1.heap.size l w1 hA1 (Nat.le_refl _) hn)
  have HC := Lib.hid hc
  have HK := Lib.hid hk
  clear hc hk hA1
  go_wp2_with fail
  (with_reducible refine H2.out.mono ?_)
  rintro e w2 ⟨A2, c2, rfl, y1, y2, k⟩
  have HE := Lib.hid (show MkPost w m rest cnt ⟨true, o, l, v, true, []⟩ none [] (.returned (.pointer (some ⟨w2.heap.size, 0, none⟩))) (w2.alloc (.cells #[.int .i64 1, .int .u64 o, .slice A2 l.length c2, .int .u64 v, .bool true, .pointer none] 77)) from by
    have s1 := HK.out.size
    refine ⟨_, rfl, NwPost.box (x := ⟨true, o, l, v, true, []⟩) (b := .non) HK.out k y1 hn ⟨rfl, rfl⟩ (fun i q => q.elim) (fun i hi => ⟨.inr (by have := y2 i hi; omega), fun q => q⟩), fun q hq => ?_⟩
    exact Blk.alloc (Blk.below (HC.out q hq) k (Blk.lt (HC.out q hq))) _)
  clear y1 y2 k
  go_wp2
  go_ret
  exact HE.out
set_option maxRecDepth 100000 in
theorem ninner_any (m : Option Nat) (cnt o : Int) (n c B : Nat) (l : List UInt8) (w : World) (hm : Mt w m rest cnt) (ha : Byt w B A n l) (hB : B ≤ w.heap.size) (hn : n ≤ 140737488355328) (hd : ∀ i, Pb A l i → m ≠ some i) :
    Calls Tryz.prog 68 #[mtr m, .int .u64 o, .slice A n c] w (MkPost w m rest cnt ⟨false, o, l, 0, false, []⟩ none []) := by
  obtain rfl : l.length = n := ha.1
  have H1 := Lib.hid (made_one m cnt w hm)
  have HA := Lib.hid ha
  generalize hq : mtr m = q at H1 ⊢
  clear ha hm hq
  go_enter Tryz.func68, Tryz.ntmps68
  go_wp2_with fail
  (with_reducible refine H1.out.mono ?_)
  rintro e w1 ⟨rfl, hc, hk⟩
  have hA1 : Byt w1 w1.heap.size A l.length l := ((HA.out.more hB).keepPb fun p hp => hk.cell (by have := HA.out.ltPb hp; omega) (hd _ hp)).more hk.size
  have H2 := Lib.hid (bclone_any A l.length c w1.heap.size l w1 hA1 (Nat.le_refl _) hn)
  have HC := Lib.hid hc
  have HK := Lib.hid hk
  clear hc hk hA1
  go_wp2_with fail
  (with_reducible refine H2.out.mono ?_)
  rintro e w2 ⟨A2, c2, rfl, y1, y2, k⟩
  have H3 := Lib.hid (knew_any w2)
  have Y1 := Lib.hid y1
  have Y2 := Lib.hid y2
  have K := Lib.hid k
  clear y1 y2 k
  go_wp2_with fail
  (with_reducible refine H3.out.mono ?_)
  rintro e w3 ⟨oh, rfl, z1, z2, z3⟩
  have HE := Lib.hid (show MkPost w m rest cnt ⟨false, o, l, 0, false, []⟩ none [] (.returned (.pointer (some ⟨w3.heap.size, 0, none⟩))) (w3.alloc (.cells #[.int .i64 2, .int .u64 o, .slice A2 l.length c2, .int .u64 0, .bool false, .pointer (some ⟨w2.heap.size, 0, none⟩)] 77)) from by
    have s1 := HK.out.size
    have s2 := K.out.size
    have hD : ∀ i, (Be.at_ w2.heap.size oh).D i → w2.heap.size ≤ i := fun i hi => by
      rcases hi with rfl | hi
      · omega
      · have := z2 i hi; omega
    refine ⟨_, rfl, NwPost.box (x := ⟨false, o, l, 0, false, []⟩) (b := .at_ w2.heap.size oh) HK.out (K.out.trans (z3.mono s2)) ((Y1.out.below z3).more z3.size) hn ⟨rfl, z1⟩ (fun i q => by have := hD i q; omega) (fun i hi => ⟨.inr (by have := Y2.out i hi; omega), fun q => ?_⟩), fun q hq => ?_⟩
    · have := hD i q; have := Y1.out.ltPb hi; omega
    · have h1 := Blk.below (HC.out q hq) K.out (Blk.lt (HC.out q hq))
      exact Blk.alloc (Blk.below h1 z3 (Blk.lt h1)) _)
  clear z1 z2 z3
  go_wp2
  go_ret
  exact HE.out

set_option maxRecDepth 100000 in
/-- Kids of one's own with the same. -/
theorem Be.Is.copy_ {leaf : Bool} {es : List Ent} (h : b.Is w leaf es) : Calls Tryz.prog 74 #[b.ptr] w fun e w' =>
    ∃ b', e = .returned (Be.ptr b') ∧ Be.Is w' leaf es b' ∧ (∀ i, Be.D b' i → w.heap.size ≤ i) ∧ Below w.heap.size w w' := by
  cases b with
  | non =>
    refine (kcopy_nil w).mono ?_
    rintro e w' ⟨rfl, rfl⟩
    exact ⟨.non, rfl, h, fun i q => q.elim, Below.refl _ _⟩
  | at_ k o =>
    refine (kcopy_any h.2).mono ?_
    rintro e w' ⟨g', o', rfl, k1, k2, k3⟩
    exact ⟨.at_ g' o', rfl, ⟨h.1, k1⟩, k2, k3⟩

set_option maxRecDepth 100000 in
set_option maxHeartbeats 400000 in
theorem ncopy_any (h : Nod w g x b A) (m : Option Nat) (cnt o : Int) (hm : Mt w m rest cnt) (hd : ∀ i, b.all g i ∨ Pb A x.part i → m ≠ some i) :
    Calls Tryz.prog 51 #[.pointer (some ⟨g, 0, none⟩), mtr m, .int .u64 o] w (MkPost w m rest cnt { x with ow := o } A x.part) := by
  have H0 := Lib.hid (what_any h)
  obtain ⟨i, hi, hi0⟩ := isN_pos x.leaf
  rw [hi] at H0
  have H1 := Lib.hid (made_one m cnt w hm)
  have HN := Lib.hid h
  generalize hq : mtr m = q at H1 ⊢
  clear h hm hq
  go_enter Tryz.func51, Tryz.ntmps51
  go_wp2_with fail
  (with_reducible refine H0.out.mono ?_)
  rintro e w1 ⟨rfl, rfl⟩
  go_wp2_with fail
  (with_reducible refine H1.out.mono ?_)
  rintro e w2 ⟨rfl, hc, hk⟩
  have hN := HN.out.kept hk (fun i hi => fun e => hd i hi e)
  have HC := Lib.hid hc
  have HK := Lib.hid hk
  obtain ⟨c, hb⟩ := hN.blk
  obtain ⟨L, hL⟩ : ∃ L : List Value, (ndC x A x.part.length c b).toList = L := ⟨_, rfl⟩
  have hLa : (ndC x A x.part.length c b) = L.toArray := by rw [← hL]
  have HR := Lib.hid (show w2.rangeAt g 0 L from Lst.all (show Lst w2 g L by rw [hLa] at hb; exact hb))
  have H6 := Lib.hid (show (Tryz.prog.info? 77).map (·.size) = some L.length by rw [← hL]; exact node_size)
  have H6' := Lib.hid (show (Tryz.prog.info? 77).map (·.size) = some L.toArray.size by rw [← hL]; exact node_size)
  have ONE := Lib.hid (show L.toArray.all (·.oneCell') = true by rw [← hL]; simp [Value.oneCell'])
  have hZ := Blk.new w2 77 #[.int .i64 0, .int .u64 0, .slice none 0 0, .int .u64 0, .bool false, .pointer none]
  have HT := Lib.hid (show (w2.alloc (.cells #[.int .i64 0, .int .u64 0, .slice none 0 0, .int .u64 0, .bool false, .pointer none] 77)).there w2.heap.size 0 L.toArray.size from Lst.there (l := [.int .i64 0, .int .u64 0, .slice none 0 0, .int .u64 0, .bool false, .pointer none]) hZ (by rw [← hL]; simp))
  obtain ⟨V, hV⟩ : ∃ V, V = (w2.alloc (.cells #[.int .i64 0, .int .u64 0, .slice none 0 0, .int .u64 0, .bool false, .pointer none] 77)).setCells w2.heap.size 0 L.toArray.toList := ⟨_, rfl⟩
  have blV : Blk V w2.heap.size (ndC x A x.part.length c b) := by
    subst hV
    have := Lst.setCells (l := [.int .i64 0, .int .u64 0, .slice none 0 0, .int .u64 0, .bool false, .pointer none]) hZ 0 L (by rw [← hL]; simp)
    rw [hLa]
    have e : spl [.int .i64 0, .int .u64 0, .slice none 0 0, .int .u64 0, .bool false, .pointer none] 0 L = L := by
      unfold spl
      rw [← hL]
      simp
    rw [e] at this
    exact this
  have kV : Kept (· = w2.heap.size) w2 V := by subst hV; exact (Kept.of_below ((Below.refl _ _).alloc (Nat.le_refl _) _)).trans (Kept.setCells _ _ _ _ _ rfl)
  have sV : V.heap.size = w2.heap.size + 1 := by subst hV; rw [size_setCells, World.size_alloc]
  obtain ⟨U, hU⟩ : ∃ U, U = V.setCell ⟨w2.heap.size, 1, none⟩ (.int .u64 o) := ⟨_, rfl⟩
  have blU : Blk U w2.heap.size (ndC { x with ow := o } A x.part.length c b) := by subst hU; simpa [ndC] using blV.set_ 1 (.int .u64 o)
  have kU : Kept (· = w2.heap.size) w2 U := by subst hU; exact kV.trans (Kept.set_ _ _ _ rfl)
  have sU : U.heap.size = w2.heap.size + 1 := by rw [hU]; simp [sV]
  have v1 : V.cell? ⟨w2.heap.size, 1, none⟩ = some (.int .u64 x.ow) := blV.cell 1
  have v2 : V.frozen? ⟨w2.heap.size, 1, none⟩ = false := blV.fz 1
  have belU : Below w2.heap.size w2 U := kU.below (Nat.le_refl _) (fun i e => by omega)
  have nU := hN.below belU
  have v5 : V.cell? ⟨g, 5, none⟩ = some b.ptr := (hN.below (kV.below (Nat.le_refl _) (fun i e => by omega))).kid_
  have hgl : ¬ w2.heap.size = g := by have := hN.lt0; omega
  have h5 := Be.Is.copy_ nU.kids
  rw [hU] at h5
  have H5 := Lib.hid h5
  have HE := Lib.hid (fun (b' : Be) (w3 : World) (k1 : Be.Is w3 x.leaf x.es b') (k2 : ∀ i, Be.D b' i → U.heap.size ≤ i) (k3 : Below U.heap.size U w3) => show w3.cell? ⟨w2.heap.size, 5, none⟩ = some b.ptr ∧ w3.frozen? ⟨w2.heap.size, 5, none⟩ = false ∧
      MkPost w1 m rest cnt { x with ow := o } A x.part (.returned (.pointer (some ⟨w2.heap.size, 0, none⟩))) (w3.setCell ⟨w2.heap.size, 5, none⟩ b'.ptr) by
    have b3 := blU.below k3 (by omega)
    have s0 := HK.out.size
    have s3 := k3.size
    have ks : Kept (· = w2.heap.size) w3 (w3.setCell ⟨w2.heap.size, 5, none⟩ b'.ptr) := Kept.set_ _ _ _ rfl
    have n3 := nU.below k3
    have n0 := HN.out
    have lt0 := n0.lt0
    refine ⟨b3.cell 5, b3.fz 5, _, rfl, ⟨b', A, ⟨⟨c, ?_⟩, ?_, n3.short, k1.kept ks (fun i hi e => by have := k2 i hi; omega), fun q => ?_, fun i hi => ⟨fun e => ?_, fun q => ?_⟩⟩, fun i hi => ?_, fun i hi => .inl hi, ?_⟩, fun q hq => ?_⟩
    · have := b3.set_ 5 b'.ptr
      simpa [ndC] using this
    · exact (n3.byt.keepPb fun p hp => ks.cell (n3.ltA hp) (fun e => by have := n0.ltA hp; omega)).more ks.size
    · have := k2 _ q; omega
    · have := n0.ltA hi; omega
    · have := k2 _ q; have := n0.ltA hi; omega
    · rcases hi with rfl | hi
      · omega
      · have := k2 _ hi; omega
    · exact (HK.out.trans' kU (fun i hi e => by omega)).trans' (D' := fun i => i = w2.heap.size) ((Kept.of_below k3).trans ks) (fun i hi e => by omega)
    · have q0 := Blk.lt (HC.out q hq)
      have q1 : Lst w3 q (.int .i64 (cnt + 1) :: rest) := Blk.below (Blk.below (HC.out q hq) belU q0) k3 (by omega)
      exact ks.blk q1 (fun e => by omega))
  have HV := Lib.hid hV
  have HU := Lib.hid hU
  clear hc hk hb hN hLa hL hZ blV kV sV blU kU sU belU nU hV h5 hU HK HC HN hd
  generalize b.th = kp at v5 H5 HE
  go_wp2_with (first
    | (refine wpList_load_mid rfl 77 (.tmp 14) rfl g 0 rfl L _ HR.out Tryz.underlying77 rfl H6.out ?_)
    | (refine wpList_store_mid rfl 77 (.tmp 7) (.tmp 15) rfl w2.heap.size 0 L.toArray rfl rfl HT.out H6'.out ONE.out ?_; rw [← HV.out]))
  (with_reducible refine H5.out.mono ?_)
  rintro e w3 ⟨b', rfl, k1, k2, k3⟩
  rw [← HU.out] at k2 k3
  obtain ⟨c1, c2, c3⟩ := HE.out b' w3 k1 k2 k3
  have HF := Lib.hid c3
  clear c3 k1 k2 k3
  generalize b'.th = kq at HF ⊢
  go_wp2
  go_ret
  exact HF.out
set_option maxRecDepth 100000 in
/-- Own, where one may write to it; where not. -/
theorem nown_yes (h : Nod w g x b A) (v : Value) (o : Int) (hm : mineB x.ow o = true) : Calls Tryz.prog 72 #[.pointer (some ⟨g, 0, none⟩), v, .int .u64 o] w fun e w' => e = .returned (.pointer (some ⟨g, 0, none⟩)) ∧ w' = w := by
  have H1 := Lib.hid (belongs_any h o)
  rw [hm] at H1
  clear h hm
  go_enter Tryz.func72, Tryz.ntmps72
  go_wp2_with fail
  (with_reducible refine H1.out.mono ?_)
  rintro e w1 ⟨rfl, rfl⟩
  go_wp2
  go_ret
  exact ⟨rfl, rfl⟩
set_option maxRecDepth 100000 in
theorem nown_no (h : Nod w g x b A) (m : Option Nat) (cnt o : Int) (hm : mineB x.ow o = false) (hc : Mt w m rest cnt) (hd : ∀ i, b.all g i ∨ Pb A x.part i → m ≠ some i) :
    Calls Tryz.prog 72 #[.pointer (some ⟨g, 0, none⟩), mtr m, .int .u64 o] w (MkPost w m rest cnt { x with ow := o } A x.part) := by
  have H1 := Lib.hid (belongs_any h o)
  have H2 := Lib.hid (ncopy_any h m cnt o hc hd)
  rw [hm] at H1
  clear h hm hc hd
  generalize { x with ow := o } = x2 at H2 ⊢
  generalize mtr m = q at H2 ⊢
  go_enter Tryz.func72, Tryz.ntmps72
  go_wp2_with fail
  (with_reducible refine H1.out.mono ?_)
  rintro e w1 ⟨rfl, rfl⟩
  go_wp2_with fail
  (with_reducible refine H2.out.mono ?_)
  rintro e w2 ⟨g2, rfl, k1, k2⟩
  have HE := Lib.hid (show MkPost w1 m rest cnt x2 A x.part (.returned (.pointer (some ⟨g2, 0, none⟩))) w2 from ⟨g2, rfl, k1, k2⟩)
  clear k1 k2
  go_wp2
  go_ret
  exact HE.out
end
end Go.Proofs.YtajpipaooaemdaaGreatDoor

namespace Go.Proofs.YtajpipaooaemdaaGreatDoor
open Go.RowKit

/-- A node, and where it lies. -/
structure Nk where
  g : Nat
  x : Nd
  b : Be
  A : Option Addr
/-- They lie in blocks from B on, not in N; no block of one's own is another one's, or holds a part. -/
structure Nds (w : World) (B : Nat) (N : Nat → Prop) (ns : List Nk) : Prop where
  nod : ∀ (k : Nat) (n : Nk), ns[k]? = some n → Nod w n.g n.x n.b n.A
  new : ∀ (k : Nat) (n : Nk), ns[k]? = some n → ∀ i, n.b.all n.g i ∨ Pb n.A n.x.part i → B ≤ i ∧ ¬ N i
  apart : ∀ (j k : Nat) (n m : Nk), ns[j]? = some n → ns[k]? = some m → j ≠ k → ∀ i, n.b.all n.g i → ¬ m.b.all m.g i
  far : ∀ (j k : Nat) (n m : Nk), ns[j]? = some n → ns[k]? = some m → ∀ i, Pb n.A n.x.part i → ¬ m.b.all m.g i
/-- What they are, and their blocks. -/
def Ns (w : World) (B : Nat) (N : Nat → Prop) (l : List (Nat × Nd)) : Prop := ∃ ns : List Nk, ns.map (fun n => (n.g, n.x)) = l ∧ Nds w B N ns

section
variable {w w' : World} {B : Nat} {N : Nat → Prop} {ns : List Nk} {l : List (Nat × Nd)} {g : Nat} {x x' : Nd} {rest : List Value}
theorem Nds.kept (h : Nds w B N ns) {D : Nat → Prop} (hk : Kept D w w') (hD : ∀ i, D i → i < B ∨ N i) : Nds w' B N ns :=
  ⟨fun k n hn => (h.nod k n hn).kept hk (fun i hi q => by
      have := h.new k n hn i hi
      rcases hD i q with q | q
      · omega
      · exact this.2 q), h.new, h.apart, h.far⟩
theorem Nds.none_ (w : World) (B : Nat) (N : Nat → Prop) : Nds w B N [] := ⟨fun k n hn => by simp at hn, fun k n hn => by simp at hn, fun j k n m hn => by simp at hn, fun j k n m hn => by simp at hn⟩
theorem getElem?_snoc {α : Type} {l : List α} {a b : α} {k : Nat} (h : (l ++ [a])[k]? = some b) : (k < l.length ∧ l[k]? = some b) ∨ (k = l.length ∧ b = a) := by
  rcases Nat.lt_trichotomy k l.length with hk | hk | hk
  · left; rw [List.getElem?_append_left hk] at h; exact ⟨hk, h⟩
  · right; subst hk; rw [List.getElem?_append_right (Nat.le_refl _)] at h; simp at h; exact ⟨rfl, h.symm⟩
  · rw [List.getElem?_eq_none (by simp; omega)] at h; cases h
/-- One is another one now. -/
theorem Nds.upd (h : Nds w B N ns) {k : Nat} {n : Nk} (hn : ns[k]? = some n) (hB : B ≤ w.heap.size) (hN : ∀ i, N i → i < w.heap.size) (hp : NdPost w w' n.g x' n.b n.A n.x.part) :
    ∃ b' A', Nds w' B N (ns.set k ⟨n.g, x', b', A'⟩) := by
  obtain ⟨b', A', h1, h2, h3, h4⟩ := hp
  have hkl : k < ns.length := (List.getElem?_eq_some_iff.1 hn).1
  have hall : ∀ i, b'.all n.g i → n.b.all n.g i ∨ w.heap.size ≤ i := fun i hi => by
    rcases hi with hi | hi
    · exact .inl (.inl hi)
    · rcases h2 i hi with q | q
      · exact .inl (.inr q)
      · exact .inr q
  have get : ∀ {j : Nat} {m : Nk}, (ns.set k ⟨n.g, x', b', A'⟩)[j]? = some m → (j = k ∧ m = ⟨n.g, x', b', A'⟩) ∨ (j ≠ k ∧ ns[j]? = some m) := fun {j m} hj => by
    rw [List.getElem?_set] at hj
    by_cases e : k = j
    · subst e
      rw [if_pos rfl, if_pos hkl] at hj
      injection hj with hj
      exact .inl ⟨rfl, hj.symm⟩
    · rw [if_neg e] at hj
      exact .inr ⟨fun q => e q.symm, hj⟩
  have old : ∀ {j : Nat} {m : Nk}, ns[j]? = some m → ∀ i, m.b.all m.g i ∨ Pb m.A m.x.part i → i < w.heap.size := fun {j m} hj i hi => by
    rcases hi with hi | hi
    · exact (h.nod j m hj).lt hi
    · exact (h.nod j m hj).ltA hi
  refine ⟨b', A', ⟨fun j m hj => ?_, fun j m hj i hi => ?_, fun i j a c ha hc hij q hq1 hq2 => ?_, fun i j a c ha hc q hq1 hq2 => ?_⟩⟩
  · rcases get hj with ⟨rfl, rfl⟩ | ⟨e, hj'⟩
    · exact h1
    · refine (h.nod j m hj').kept h4 (fun i hi q => ?_)
      rcases hi with hi | hi
      · exact h.apart j _ m n hj' hn e i hi q
      · exact h.far j _ m n hj' hn i hi q
  · rcases get hj with ⟨rfl, rfl⟩ | ⟨e, hj'⟩
    · have : (n.b.all n.g i ∨ Pb n.A n.x.part i) ∨ w.heap.size ≤ i := by
        rcases hi with hi | hi
        · rcases hall i hi with q | q
          · exact .inl (.inl q)
          · exact .inr q
        · rcases h3 i hi with q | q
          · exact .inl (.inr q)
          · exact .inr q
      rcases this with q | q
      · exact h.new _ n hn i q
      · exact ⟨by omega, fun q' => by have := hN i q'; omega⟩
    · exact h.new j m hj' i hi
  · rcases get ha with ⟨rfl, rfl⟩ | ⟨ea, ha'⟩
    · rcases get hc with ⟨rfl, rfl⟩ | ⟨ec, hc'⟩
      · exact hij rfl
      · rcases hall q hq1 with p | p
        · exact h.apart _ j n c hn hc' (fun e => ec e.symm) q p hq2
        · have := old hc' q (.inl hq2); omega
    · rcases get hc with ⟨rfl, rfl⟩ | ⟨ec, hc'⟩
      · rcases hall q hq2 with p | p
        · exact h.apart i _ a n ha' hn ea q hq1 p
        · have := old ha' q (.inl hq1); omega
      · exact h.apart i j a c ha' hc' hij q hq1 hq2
  · rcases get ha with ⟨rfl, rfl⟩ | ⟨ea, ha'⟩
    · rcases get hc with ⟨rfl, rfl⟩ | ⟨ec, hc'⟩
      · have := h1.far q hq1
        rcases hq2 with p | p
        · exact this.1 p
        · exact this.2 p
      · rcases h3 q hq1 with p | p
        · exact h.far _ j n c hn hc' q p hq2
        · have := old hc' q (.inl hq2); omega
    · rcases get hc with ⟨rfl, rfl⟩ | ⟨ec, hc'⟩
      · rcases hall q hq2 with p | p
        · exact h.far i _ a n ha' hn q hq1 p
        · have := old ha' q (.inr hq1); omega
      · exact h.far i j a c ha' hc' q hq1 hq2
/-- One more. -/
theorem Nds.add (h : Nds w B N ns) {m : Option Nat} {A0 : Option Addr} {l0 : List UInt8} (hB : B ≤ w.heap.size) (hN : ∀ i, N i → i < w.heap.size) (hm : ∀ i, m = some i → i < B ∨ N i)
    (h0 : ∀ i, Pb A0 l0 i → ∃ (k : Nat) (n : Nk), ns[k]? = some n ∧ Pb n.A n.x.part i) (hp : NwPost w w' m g x A0 l0) : ∃ b A, Nds w' B N (ns ++ [⟨g, x, b, A⟩]) := by
  obtain ⟨b, A, h1, h2, h3, h4⟩ := hp
  have hk := h.kept h4 hm
  have old : ∀ {j : Nat} {m : Nk}, ns[j]? = some m → ∀ i, m.b.all m.g i ∨ Pb m.A m.x.part i → i < w.heap.size := fun {j m} hj i hi => by
    rcases hi with hi | hi
    · exact (h.nod j m hj).lt hi
    · exact (h.nod j m hj).ltA hi
  refine ⟨b, A, ⟨fun j m hj => ?_, fun j m hj i hi => ?_, fun i j a c ha hc hij q hq1 hq2 => ?_, fun i j a c ha hc q hq1 hq2 => ?_⟩⟩
  · rcases getElem?_snoc hj with ⟨_, hj⟩ | ⟨_, rfl⟩
    · exact hk.nod j m hj
    · exact h1
  · rcases getElem?_snoc hj with ⟨_, hj⟩ | ⟨_, rfl⟩
    · exact h.new j m hj i hi
    · have fr : w.heap.size ≤ i → B ≤ i ∧ ¬ N i := fun q => ⟨by omega, fun q' => by have := hN i q'; omega⟩
      rcases hi with hi | hi
      · exact fr (h2 i hi)
      · rcases h3 i hi with q | q
        · obtain ⟨k, n, hn, hq⟩ := h0 i q
          exact h.new k n hn i (.inr hq)
        · exact fr q
  · rcases getElem?_snoc ha with ⟨_, ha⟩ | ⟨ea, rfl⟩
    · rcases getElem?_snoc hc with ⟨_, hc⟩ | ⟨ec, rfl⟩
      · exact h.apart i j a c ha hc hij q hq1 hq2
      · have := h2 q hq2; have := old ha q (.inl hq1); omega
    · rcases getElem?_snoc hc with ⟨_, hc⟩ | ⟨ec, rfl⟩
      · have := h2 q hq1; have := old hc q (.inl hq2); omega
      · omega
  · rcases getElem?_snoc ha with ⟨_, ha⟩ | ⟨ea, rfl⟩
    · rcases getElem?_snoc hc with ⟨_, hc⟩ | ⟨ec, rfl⟩
      · exact h.far i j a c ha hc q hq1 hq2
      · have := h2 q hq2; have := old ha q (.inr hq1); omega
    · rcases getElem?_snoc hc with ⟨_, hc⟩ | ⟨ec, rfl⟩
      · rcases h3 q hq1 with p | p
        · obtain ⟨k, n, hn, hq⟩ := h0 q p
          exact h.far k j n c hn hc q hq hq2
        · have := old hc q (.inl hq2); omega
      · have := h1.far q hq1
        rcases hq2 with p | p
        · exact this.1 p
        · exact this.2 p

theorem Ns.none_ (w : World) (B : Nat) (N : Nat → Prop) : Ns w B N [] := ⟨[], rfl, Nds.none_ w B N⟩
theorem Ns.kept (h : Ns w B N l) {D : Nat → Prop} (hk : Kept D w w') (hD : ∀ i, D i → i < B ∨ N i) : Ns w' B N l := by
  obtain ⟨ns, h1, h2⟩ := h; exact ⟨ns, h1, h2.kept hk hD⟩
theorem Ns.below (h : Ns w B N l) (hk : Below w.heap.size w w') : Ns w' B N l := h.kept (D := fun _ => False) (Kept.of_below hk) (fun _ q => q.elim)
theorem Ns.still (h : Ns w B N l) (hs : Still w w') : Ns w' B N l := h.below (hs.below _)
theorem Ns.drewN (h : Ns w B N l) (n : Nat) : Ns (w.drewN n) B N l := h.still ⟨n, rfl⟩
/-- More blocks that are none of theirs: new ones. -/
theorem Ns.more (h : Ns w B N l) {N' : Nat → Prop} (hN : ∀ i, N' i → N i ∨ w.heap.size ≤ i) : Ns w B N' l := by
  obtain ⟨ns, h1, h2⟩ := h
  refine ⟨ns, h1, h2.nod, fun k n hn i hi => ⟨(h2.new k n hn i hi).1, fun q => ?_⟩, h2.apart, h2.far⟩
  rcases hN i q with q | q
  · exact (h2.new k n hn i hi).2 q
  · rcases hi with hi | hi
    · have := (h2.nod k n hn).lt hi; omega
    · have := (h2.nod k n hn).ltA hi; omega
theorem Ns.at_ (h : Ns w B N l) {k : Nat} (hk : l[k]? = some (g, x)) : ∃ b A, Nod w g x b A := by
  obtain ⟨ns, rfl, h2⟩ := h
  rw [List.getElem?_map] at hk
  rcases hn : ns[k]? with _ | n
  · rw [hn] at hk; cases hk
  · rw [hn] at hk
    simp only [Option.map_some, Option.some.injEq, Prod.mk.injEq] at hk
    obtain ⟨rfl, rfl⟩ := hk
    exact ⟨_, _, h2.nod k n hn⟩
set_option maxRecDepth 100000 in
/-- What is done with one. -/
theorem Ns.wr (h : Ns w B N l) {k : Nat} (hk : l[k]? = some (g, x)) (hB : B ≤ w.heap.size) (hN : ∀ i, N i → i < w.heap.size) {f : FuncId} {args : Array Value} {n : Int}
    (hc : ∀ b A, Nod w g x b A → Calls Tryz.prog f args w fun e w' => e = .returned (.int .i64 n) ∧ NdPost w w' g x' b A x.part) :
    Calls Tryz.prog f args w fun e w' => e = .returned (.int .i64 n) ∧ Ns w' B N (l.set k (g, x')) ∧ Kept (fun i => B ≤ i ∧ ¬ N i) w w' := by
  obtain ⟨ns, rfl, h2⟩ := h
  rw [List.getElem?_map] at hk
  rcases hn : ns[k]? with _ | q
  · rw [hn] at hk; cases hk
  · rw [hn] at hk
    simp only [Option.map_some, Option.some.injEq, Prod.mk.injEq] at hk
    obtain ⟨rfl, rfl⟩ := hk
    refine (hc q.b q.A (h2.nod k q hn)).mono ?_
    rintro e w' ⟨rfl, hp⟩
    obtain ⟨b', A', hr⟩ := h2.upd hn hB hN hp
    obtain ⟨_, _, _, _, _, hkp⟩ := hp
    exact ⟨rfl, ⟨_, by rw [List.map_set], hr⟩, hkp.mono (fun i hi => h2.new k q hn i (.inl hi))⟩
/-- What makes one. -/
theorem Ns.mk_ (h : Ns w B N l) (hB : B ≤ w.heap.size) (hN : ∀ i, N i → i < w.heap.size) {m : Option Nat} {cnt : Int} (hm : ∀ i, m = some i → i < B ∨ N i) {e : Ending} (hp : MkPost w m rest cnt x none [] e w') :
    ∃ g, e = .returned (.pointer (some ⟨g, 0, none⟩)) ∧ Ns w' B N (l ++ [(g, x)]) ∧ Kept (fun i => m = some i) w w' ∧ ∀ q, m = some q → Lst w' q (.int .i64 (cnt + 1) :: rest) := by
  obtain ⟨ns, rfl, h2⟩ := h
  obtain ⟨g, rfl, hp, hc⟩ := hp
  obtain ⟨b, A, hr⟩ := h2.add hB hN hm (fun i q => absurd rfl q.1) hp
  obtain ⟨_, _, _, _, _, hk⟩ := hp
  exact ⟨g, rfl, ⟨_, by rw [List.map_append]; rfl, hr⟩, hk, hc⟩
set_option maxRecDepth 100000 in
/-- What makes one like another. -/
theorem Ns.like (h : Ns w B N l) {k : Nat} (hk : l[k]? = some (g, x)) (hB : B ≤ w.heap.size) (hN : ∀ i, N i → i < w.heap.size) {m : Option Nat} {cnt : Int} (hm : ∀ i, m = some i → i < B ∨ N i) {f : FuncId} {args : Array Value}
    (hc : ∀ b A, Nod w g x b A → (∀ i, b.all g i ∨ Pb A x.part i → m ≠ some i) → Calls Tryz.prog f args w (MkPost w m rest cnt x' A x.part)) :
    Calls Tryz.prog f args w fun e w' => ∃ g', e = .returned (.pointer (some ⟨g', 0, none⟩)) ∧ Ns w' B N (l ++ [(g', x')]) ∧ Kept (fun i => m = some i) w w' ∧ ∀ q, m = some q → Lst w' q (.int .i64 (cnt + 1) :: rest) := by
  obtain ⟨ns, rfl, h2⟩ := h
  rw [List.getElem?_map] at hk
  rcases hn : ns[k]? with _ | q
  · rw [hn] at hk; cases hk
  · rw [hn] at hk
    simp only [Option.map_some, Option.some.injEq, Prod.mk.injEq] at hk
    obtain ⟨rfl, rfl⟩ := hk
    refine (hc q.b q.A (h2.nod k q hn) (fun i hi e => ?_)).mono ?_
    · have := h2.new k q hn i hi
      rcases hm i e with p | p
      · omega
      · exact this.2 p
    · rintro e w' ⟨g', rfl, hp, hcn⟩
      obtain ⟨b, A, hr⟩ := h2.add hB hN hm (fun i p => ⟨k, q, hn, p⟩) hp
      obtain ⟨_, _, _, _, _, hkp⟩ := hp
      exact ⟨g', rfl, ⟨_, by rw [List.map_append]; rfl, hr⟩, hkp, hcn⟩

set_option maxRecDepth 100000 in
theorem Ns.setpart (h : Ns w B N l) {k : Nat} (hk : l[k]? = some (g, x)) (hB : B ≤ w.heap.size) (hN : ∀ i, N i → i < w.heap.size) (o : Int) (A' : Option Addr) (n c B' : Nat) (p : List UInt8) (ha : Byt w B' A' n p) (hB' : B' ≤ w.heap.size) (hn : n ≤ 140737488355328) :
    Calls Tryz.prog 52 #[.pointer (some ⟨g, 0, none⟩), .int .u64 o, .slice A' n c] w fun e w' => e = .returned (.int .i64 (closN x o)) ∧ Ns w' B N (l.set k (g, nSetPart x o p)) ∧ Kept (fun i => B ≤ i ∧ ¬ N i) w w' :=
  h.wr hk hB hN (fun _ _ hq => nsetpart_any hq o A' n c B' p ha hB' hn)
set_option maxRecDepth 100000 in
theorem Ns.setkid (h : Ns w B N l) {k j g2 : Nat} {x2 : Nd} (hk : l[k]? = some (g, x)) (hj : l[j]? = some (g2, x2)) (hB : B ≤ w.heap.size) (hN : ∀ i, N i → i < w.heap.size) (o : Int) (c : UInt8) (z : Int) (hz : z = (c.toNat : Int)) :
    Calls Tryz.prog 71 #[.pointer (some ⟨g, 0, none⟩), .int .u64 o, .int .u8 z, .pointer (some ⟨g2, 0, none⟩)] w fun e w' => e = .returned (.int .i64 (setKN x o (some ⟨g2, 0, none⟩))) ∧ Ns w' B N (l.set k (g, nSetKid x o c (some ⟨g2, 0, none⟩))) ∧ Kept (fun i => B ≤ i ∧ ¬ N i) w w' := by
  obtain ⟨b2, A2, h2⟩ := h.at_ hj
  obtain ⟨i, hi, hi0⟩ := isN_pos x2.leaf
  exact h.wr hk hB hN (fun _ _ hn => nsetkid_any hn o c z hz (some ⟨g2, 0, none⟩) (fun a e => ⟨i, hi0, hi ▸ what_any h2⟩))
set_option maxRecDepth 100000 in
theorem Ns.leaf_ (h : Ns w B N l) (hB : B ≤ w.heap.size) (hN : ∀ i, N i → i < w.heap.size) (m : Option Nat) (cnt o v : Int) {A : Option Addr} (n c B' : Nat) (p : List UInt8) (hm : Mt w m rest cnt) (hmN : ∀ i, m = some i → i < B ∨ N i) (ha : Byt w B' A n p) (hB' : B' ≤ w.heap.size) (hn : n ≤ 140737488355328) (hd : ∀ i, Pb A p i → m ≠ some i) :
    Calls Tryz.prog 20 #[mtr m, .int .u64 o, .slice A n c, .int .u64 v] w fun e w' => ∃ g', e = .returned (.pointer (some ⟨g', 0, none⟩)) ∧ Ns w' B N (l ++ [(g', ⟨true, o, p, v, true, []⟩)]) ∧ Kept (fun i => m = some i) w w' ∧ ∀ q, m = some q → Lst w' q (.int .i64 (cnt + 1) :: rest) :=
  (nleaf_any m cnt o v n c B' p w hm ha hB' hn hd).mono fun _ _ hp => h.mk_ hB hN hmN hp
set_option maxRecDepth 100000 in
theorem Ns.copy_ (h : Ns w B N l) {k : Nat} (hk : l[k]? = some (g, x)) (hB : B ≤ w.heap.size) (hN : ∀ i, N i → i < w.heap.size) (m : Option Nat) (cnt o : Int) (hm : Mt w m rest cnt) (hmN : ∀ i, m = some i → i < B ∨ N i) :
    Calls Tryz.prog 51 #[.pointer (some ⟨g, 0, none⟩), mtr m, .int .u64 o] w fun e w' => ∃ g', e = .returned (.pointer (some ⟨g', 0, none⟩)) ∧ Ns w' B N (l ++ [(g', { x with ow := o })]) ∧ Kept (fun i => m = some i) w w' ∧ ∀ q, m = some q → Lst w' q (.int .i64 (cnt + 1) :: rest) :=
  h.like hk hB hN hmN (fun _ _ hn hd => ncopy_any hn m cnt o hm hd)
set_option maxRecDepth 100000 in
theorem Ns.own_no (h : Ns w B N l) {k : Nat} (hk : l[k]? = some (g, x)) (hB : B ≤ w.heap.size) (hN : ∀ i, N i → i < w.heap.size) (m : Option Nat) (cnt o : Int) (hmi : mineB x.ow o = false) (hm : Mt w m rest cnt) (hmN : ∀ i, m = some i → i < B ∨ N i) :
    Calls Tryz.prog 72 #[.pointer (some ⟨g, 0, none⟩), mtr m, .int .u64 o] w fun e w' => ∃ g', e = .returned (.pointer (some ⟨g', 0, none⟩)) ∧ Ns w' B N (l ++ [(g', { x with ow := o })]) ∧ Kept (fun i => m = some i) w w' ∧ ∀ q, m = some q → Lst w' q (.int .i64 (cnt + 1) :: rest) :=
  h.like hk hB hN hmN (fun _ _ hn hd => nown_no hn m cnt o hmi hm hd)
end
end Go.Proofs.YtajpipaooaemdaaGreatDoor
