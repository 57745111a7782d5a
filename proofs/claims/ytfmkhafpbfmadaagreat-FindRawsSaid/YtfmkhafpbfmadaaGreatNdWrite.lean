/-
  What writes to a node: who may, what it leaves.
-/
import Derived.Test.YtfmkhafpbfmadaaGreatNdRead
namespace Go.Proofs.YtfmkhafpbfmadaaGreat
open Go.RowKit

/-- Whether who hands over o may write to what own owns. -/
def mineB (ow o : Int) : Bool := o != 0 && o == ow
def closN (x : Nd) (o : Int) : Int := if mineB x.ow o then 0 else 11
def closIN (x : Nd) (o : Int) : Int := if mineB x.ow o then (if x.leaf then 9 else 0) else 11
theorem mine_yes {ow o : Int} (h0 : o ≠ 0) (h : o = ow) : mineB ow o = true := by subst h; simp [mineB, h0]
theorem mine_zero (ow : Int) : mineB ow 0 = false := by simp [mineB]
theorem mine_no {ow o : Int} (h : o ≠ ow) : mineB ow o = false := by simp [mineB, h]

section
variable {w w' : World} {g : Nat} {x : Nd} {b : Be} {A : Option Addr}
set_option maxRecDepth 100000 in
theorem belongs_nil (o : Int) (w : World) : Calls Tryz.prog 66 #[.pointer none, .int .u64 o] w fun e w' => e = .returned (.bool false) ∧ w' = w := by
  by_cases h0 : o = 0
  · subst h0
    go_enter Tryz.func66, Tryz.ntmps66
    go_wp2
    go_ret
    exact ⟨rfl, rfl⟩
  · have H1 := Lib.hid (owner_nil w)
    go_enter Tryz.func66, Tryz.ntmps66
    go_wp2_with fail
    (with_reducible refine H1.out.mono ?_)
    rintro e w1 ⟨rfl, rfl⟩
    go_wp2
    go_ret
    exact ⟨ret_bool (by simp [h0]), rfl⟩
set_option maxRecDepth 100000 in
theorem belongs_any (h : Nod w g x b A) (o : Int) : Calls Tryz.prog 66 #[.pointer (some ⟨g, 0, none⟩), .int .u64 o] w fun e w' => e = .returned (.bool (mineB x.ow o)) ∧ w' = w := by
  have H1 := Lib.hid (owner_any h)
  clear h
  by_cases h0 : o = 0
  · subst h0
    rw [mine_zero]
    clear H1
    go_enter Tryz.func66, Tryz.ntmps66
    go_wp2
    go_ret
    exact ⟨rfl, rfl⟩
  · generalize x.ow = q at H1 ⊢
    go_enter Tryz.func66, Tryz.ntmps66
    go_wp2_with fail
    (with_reducible refine H1.out.mono ?_)
    rintro e w1 ⟨rfl, rfl⟩
    go_wp2
    go_ret
    exact ⟨rfl, rfl⟩

set_option maxRecDepth 100000 in
theorem closed_nil (o : Int) (w : World) : Calls Tryz.prog 44 #[.pointer none, .int .u64 o] w fun e w' => e = .returned (.int .i64 2) ∧ w' = w := by
  have H1 := Lib.hid (what_nil w)
  go_enter Tryz.func44, Tryz.ntmps44
  go_wp2_with fail
  (with_reducible refine H1.out.mono ?_)
  rintro e w1 ⟨rfl, rfl⟩
  go_wp2
  go_ret
  exact ⟨rfl, rfl⟩
theorem isN_pos (l : Bool) : ∃ i : Int, isN l = i ∧ ¬ i = 0 := by cases l <;> exact ⟨_, rfl, by decide⟩
set_option maxRecDepth 100000 in
theorem closed_any (h : Nod w g x b A) (o : Int) : Calls Tryz.prog 44 #[.pointer (some ⟨g, 0, none⟩), .int .u64 o] w fun e w' => e = .returned (.int .i64 (closN x o)) ∧ w' = w := by
  have H1 := Lib.hid (what_any h)
  have H2 := Lib.hid (belongs_any h o)
  obtain ⟨i, hi, hi0⟩ := isN_pos x.leaf
  rw [hi] at H1
  clear h hi
  unfold closN
  cases hm : mineB x.ow o
  all_goals
    rw [hm] at H2
    clear hm
    go_enter Tryz.func44, Tryz.ntmps44
    go_wp2_with fail
    (with_reducible refine H1.out.mono ?_)
    rintro e w1 ⟨rfl, rfl⟩
    go_wp2_with fail
    (with_reducible refine H2.out.mono ?_)
    rintro e w1 ⟨rfl, rfl⟩
    go_wp2
    go_ret
    exact ⟨rfl, rfl⟩
set_option maxRecDepth 100000 in
theorem closedInner_nil (o : Int) (w : World) : Calls Tryz.prog 41 #[.pointer none, .int .u64 o] w fun e w' => e = .returned (.int .i64 2) ∧ w' = w := by
  have H1 := Lib.hid (closed_nil o w)
  go_enter Tryz.func41, Tryz.ntmps41
  go_wp2_with fail
  (with_reducible refine H1.out.mono ?_)
  rintro e w1 ⟨rfl, rfl⟩
  go_wp2
  go_ret
  exact ⟨rfl, rfl⟩
set_option maxRecDepth 100000 in
theorem closedInner_any (h : Nod w g x b A) (o : Int) : Calls Tryz.prog 41 #[.pointer (some ⟨g, 0, none⟩), .int .u64 o] w fun e w' => e = .returned (.int .i64 (closIN x o)) ∧ w' = w := by
  have H1 := Lib.hid (closed_any h o)
  have hc := h.is_
  clear h
  unfold closN at H1
  unfold closIN
  obtain ⟨lf, ow, pt, vl, hs, es⟩ := x
  simp only at hc H1 ⊢
  cases hm : mineB ow o with
  | false =>
    rw [hm] at H1
    simp only [Bool.false_eq_true, if_false] at H1 ⊢
    clear hm hc
    go_enter Tryz.func41, Tryz.ntmps41
    go_wp2_with fail
    (with_reducible refine H1.out.mono ?_)
    rintro e w1 ⟨rfl, rfl⟩
    go_wp2
    go_ret
    exact ⟨rfl, rfl⟩
  | true =>
    rw [hm] at H1
    simp only [if_true] at H1 ⊢
    clear hm
    cases lf with
    | true =>
      rw [show isN true = 1 from rfl] at hc
      go_enter Tryz.func41, Tryz.ntmps41
      go_wp2_with fail
      (with_reducible refine H1.out.mono ?_)
      rintro e w1 ⟨rfl, rfl⟩
      go_wp2
      go_ret
      exact ⟨rfl, rfl⟩
    | false =>
      rw [show isN false = 2 from rfl] at hc
      go_enter Tryz.func41, Tryz.ntmps41
      go_wp2_with fail
      (with_reducible refine H1.out.mono ?_)
      rintro e w1 ⟨rfl, rfl⟩
      go_wp2
      go_ret
      exact ⟨rfl, rfl⟩

theorem NdPost.same (h : Nod w g x b A) : NdPost w w g x b A x.part := ⟨b, A, h, fun _ q => .inl q, fun _ q => .inl q, Kept.refl _ _⟩
/-- One cell of its own block is written, and one more. -/
theorem NdPost.cells {x' : Nd} (h : Nod w g x b A) (hl : x'.leaf = x.leaf) (hp : x'.part = x.part) (he : x'.es = x.es) (hk : Kept (· = g) w w') (hb : ∀ c, Blk w g (ndC x A x.part.length c b) → Blk w' g (ndC x' A x.part.length c b)) : NdPost w w' g x' b A x.part := by
  obtain ⟨c, hc⟩ := h.blk
  refine ⟨b, A, ⟨⟨c, ?_⟩, ?_, by rw [hp]; exact h.short, ?_, h.ne, by rw [hp]; exact h.far⟩, fun _ q => .inl q, fun i q => .inl (hp ▸ q), hk.mono (fun i q => .inl q)⟩
  · have := hb c hc; rwa [hp]
  · rw [hp]
    exact (h.byt.keepPb fun p hq => hk.cell (h.ltA hq) (fun e => (h.far _ hq).1 e)).more hk.size
  · rw [hl, he]
    exact h.kids.kept hk (fun i hi e => h.ne (e ▸ hi))

/-- Its value is v, if o may. -/
def nSetVal (x : Nd) (o v : Int) : Nd := if mineB x.ow o then { x with has := true, val := v } else x
set_option maxRecDepth 100000 in
theorem nsetval_nil (o v : Int) (w : World) : Calls Tryz.prog 26 #[.pointer none, .int .u64 o, .int .u64 v] w fun e w' => e = .returned (.int .i64 2) ∧ w' = w := by
  have H1 := Lib.hid (closed_nil o w)
  go_enter Tryz.func26, Tryz.ntmps26
  go_wp2_with fail
  (with_reducible refine H1.out.mono ?_)
  rintro e w1 ⟨rfl, rfl⟩
  go_wp2
  go_ret
  exact ⟨rfl, rfl⟩
set_option maxRecDepth 100000 in
theorem nsetval_any (h : Nod w g x b A) (o v : Int) : Calls Tryz.prog 26 #[.pointer (some ⟨g, 0, none⟩), .int .u64 o, .int .u64 v] w fun e w' => e = .returned (.int .i64 (closN x o)) ∧ NdPost w w' g (nSetVal x o v) b A x.part := by
  have H1 := Lib.hid (closed_any h o)
  unfold closN at H1 ⊢
  unfold nSetVal
  cases hm : mineB x.ow o with
  | false =>
    rw [hm] at H1
    simp only [Bool.false_eq_true, if_false] at H1 ⊢
    have HE := Lib.hid (NdPost.same h)
    clear hm h
    go_enter Tryz.func26, Tryz.ntmps26
    go_wp2_with fail
    (with_reducible refine H1.out.mono ?_)
    rintro e w1 ⟨rfl, rfl⟩
    go_wp2
    go_ret
    exact ⟨rfl, HE.out⟩
  | true =>
    rw [hm] at H1
    simp only [if_true] at H1 ⊢
    have c1 := h.val_
    have c2 := h.has_
    have z := h.fz
    have HE := Lib.hid (show NdPost w ((w.setCell ⟨g, 3, none⟩ (.int .u64 v)).setCell ⟨g, 4, none⟩ (.bool true)) g { x with has := true, val := v } b A x.part from
      NdPost.cells h rfl rfl rfl ((Kept.set_ (D := (· = g)) _ _ _ rfl).trans (Kept.set_ (D := (· = g)) _ _ _ rfl)) (fun c hb => by simpa [ndC] using (hb.set_ 3 (.int .u64 v)).set_ 4 (.bool true)))
    clear hm h
    go_enter Tryz.func26, Tryz.ntmps26
    go_wp2_with fail
    (with_reducible refine H1.out.mono ?_)
    rintro e w1 ⟨rfl, rfl⟩
    go_wp2
    go_ret
    exact ⟨rfl, HE.out⟩

/-- What DropVal says, and what it leaves. -/
def dropVN (x : Nd) (o : Int) : Int := if mineB x.ow o then (if x.leaf then 9 else if x.has then 0 else 6) else 11
def nDropVal (x : Nd) (o : Int) : Nd := if mineB x.ow o && !x.leaf && x.has then { x with has := false, val := 0 } else x
/-- Its part is l, if o may. -/
def nSetPart (x : Nd) (o : Int) (l : List UInt8) : Nd := if mineB x.ow o then { x with part := l } else x
theorem NdPost.kids {k : Nat} {o : Ho} {es' : List Ent} (h : Nod w g x (.at_ k o) A) (hl : x.leaf = false) (hp : KdPost w w' k o es') : NdPost w w' g { x with es := es' } (.at_ k o) A x.part := by
  obtain ⟨o', k1, k2, k3⟩ := hp
  have hk := h.kids.2
  have hD : ∀ i, (Be.at_ k o').D i → (Be.at_ k o).D i ∨ w.heap.size ≤ i := fun i hi => by
    rcases hi with rfl | hi
    · exact .inl (.inl rfl)
    · rcases k2 i hi with q | q
      · exact .inl (.inr q)
      · exact .inr q
  obtain ⟨c, hb⟩ := h.blk
  refine ⟨.at_ k o', A, ⟨⟨c, k3.blk hb h.ne⟩, ?_, h.short, ⟨hl, k1⟩, fun q => ?_, fun i hi => ⟨(h.far i hi).1, fun q => ?_⟩⟩, hD, fun _ q => .inl q, k3.mono (fun i q => .inr q)⟩
  · exact (h.byt.keepPb fun p hq => k3.cell (h.ltA hq) (h.far _ hq).2).more k3.size
  · rcases hD _ q with q | q
    · exact h.ne q
    · have := h.lt0; omega
  · rcases hD _ q with q | q
    · exact (h.far i hi).2 q
    · have := h.ltA hi; omega

/-- What DropKid says, and what it leaves. -/
def dropKN (x : Nd) (o : Int) (c : UInt8) : Int := if mineB x.ow o then (if x.leaf then 9 else dropN x.es c) else 11
def nDropKid (x : Nd) (o : Int) (c : UInt8) : Nd := if mineB x.ow o && !x.leaf then { x with es := dropE x.es c } else x
/-- What SetKid says, and what it leaves. -/
def setKN (x : Nd) (o : Int) (k : Th) : Int := if mineB x.ow o then (if x.leaf then 9 else if k.isSome then 0 else 1) else 11
def nSetKid (x : Nd) (o : Int) (c : UInt8) (k : Th) : Nd := if mineB x.ow o && !x.leaf && k.isSome then { x with es := setE x.es c k } else x
set_option maxRecDepth 100000 in
theorem nsetkid_nil (o z : Int) (k : Th) (w : World) : Calls Tryz.prog 25 #[.pointer none, .int .u64 o, .int .u8 z, .pointer k] w fun e w' => e = .returned (.int .i64 2) ∧ w' = w := by
  have H1 := Lib.hid (closedInner_nil o w)
  go_enter Tryz.func25, Tryz.ntmps25
  go_wp2_with fail
  (with_reducible refine H1.out.mono ?_)
  rintro e w1 ⟨rfl, rfl⟩
  go_wp2
  go_ret
  exact ⟨rfl, rfl⟩
set_option maxRecDepth 100000 in
theorem nsetkid_any (h : Nod w g x b A) (o : Int) (c : UInt8) (z : Int) (hz : z = (c.toNat : Int)) (kd : Th)
    (hk : ∀ a, kd = some a → ∃ i : Int, ¬ i = 0 ∧ Calls Tryz.prog 42 #[.pointer kd] w fun e w' => e = .returned (.int .i64 i) ∧ w' = w) :
    Calls Tryz.prog 25 #[.pointer (some ⟨g, 0, none⟩), .int .u64 o, .int .u8 z, .pointer kd] w fun e w' => e = .returned (.int .i64 (setKN x o kd)) ∧ NdPost w w' g (nSetKid x o c kd) b A x.part := by
  subst hz
  have H1 := Lib.hid (closedInner_any h o)
  have HS := Lib.hid (NdPost.same h)
  unfold closIN at H1
  unfold setKN nSetKid
  by_cases hc : mineB x.ow o = true ∧ x.leaf = false
  · obtain ⟨hm, hl⟩ := hc
    have HL := Lib.hid hl
    rw [hm, hl] at H1
    rw [hm, hl]
    simp only [Bool.false_eq_true, if_false, if_true, Bool.not_false, Bool.and_true, Bool.true_and] at H1 ⊢
    cases kd with
    | none =>
      have H2 := Lib.hid (what_nil w)
      simp only [Option.isSome_none, Bool.false_eq_true, if_false]
      clear h hm hl hk
      go_enter Tryz.func25, Tryz.ntmps25
      go_wp2_with fail
      (with_reducible refine H1.out.mono ?_)
      rintro e w1 ⟨rfl, rfl⟩
      go_wp2_with fail
      (with_reducible refine H2.out.mono ?_)
      rintro e w1 ⟨rfl, rfl⟩
      go_wp2
      go_ret
      exact ⟨rfl, HS.out⟩
    | some a =>
      obtain ⟨i, hi, hw⟩ := hk a rfl
      have H2 := Lib.hid hw
      simp only [Option.isSome_some, if_true]
      cases b with
      | non => have := h.kids.1; rw [hl] at this; cases this
      | at_ k o' =>
        have c5 := h.kid_
        have H3 := Lib.hid (kset_any h.kids.2 c (some a) _ rfl)
        have HK := Lib.hid (fun w' => NdPost.kids (w' := w') (es' := setE x.es c (some a)) h hl)
        rw [show (Be.at_ k o').ptr = .pointer (some ⟨k, 0, none⟩) from rfl] at c5
        clear h hm hl HS hk hw
        go_enter Tryz.func25, Tryz.ntmps25
        go_wp2_with fail
        (with_reducible refine H1.out.mono ?_)
        rintro e w1 ⟨rfl, rfl⟩
        go_wp2_with fail
        (with_reducible refine H2.out.mono ?_)
        rintro e w1 ⟨rfl, rfl⟩
        go_wp2_with fail
        (with_reducible refine H3.out.mono ?_)
        rintro e w2 ⟨rfl, hp⟩
        have he := HK.out _ hp
        rw [HL.out] at he
        have HE := Lib.hid he
        clear hp he
        go_wp2
        go_ret
        exact ⟨rfl, HE.out⟩
  · obtain ⟨i, hi, hi0⟩ : ∃ i : Int, (if mineB x.ow o = true then if x.leaf = true then (9 : Int) else 0 else 11) = i ∧ ¬ i = 0 := by
      cases hm : mineB x.ow o <;> cases hl : x.leaf <;> simp [hm, hl] at hc ⊢
    have e1 : (if mineB x.ow o = true then if x.leaf = true then (9 : Int) else if kd.isSome = true then 0 else 1 else 11) = i := by
      rw [← hi]
      cases hm : mineB x.ow o <;> cases hl : x.leaf <;> simp [hm, hl] at hc ⊢
    have e2 : (mineB x.ow o && !x.leaf && kd.isSome) = false := by
      cases hm : mineB x.ow o <;> cases hl : x.leaf <;> simp [hm, hl] at hc ⊢
    rw [hi] at H1
    rw [e1, e2]
    simp only [Bool.false_eq_true, if_false]
    clear h hc hi e1 e2 hk
    go_enter Tryz.func25, Tryz.ntmps25
    go_wp2_with fail
    (with_reducible refine H1.out.mono ?_)
    rintro e w1 ⟨rfl, rfl⟩
    go_wp2
    go_ret
    exact ⟨rfl, HS.out⟩
end
end Go.Proofs.YtfmkhafpbfmadaaGreat
