/-
  What bounds' Of and the document's Of answer: a span, or an error.
-/
import Derived.Test.YtofccfbiappgaaaDoorBndRef
import Derived.Test.YtofccfbiappgaaaDoorTupPut
namespace Go.Proofs.YtofccfbiappgaaaDoor
open Go.RowKit

theorem SpEPost.of {w w' : World} {s : Sp} {er er' : Int} {f t : List UInt8} {o : Bool} {A A' : Option Addr} {n c n' c' : Nat} (hs : s = ⟨f, t, o⟩) (he : er = er') (hf : Byt w' w'.heap.size A n f) (ht : Byt w' w'.heap.size A' n' t) (hb : Below w.heap.size w w') : SpEPost w s er' (.returned (.tuple #[.agg #[.slice A n c, .slice A' n' c', .bool o], .int .i64 er])) w' := by
  subst hs he
  exact ⟨_, _, _, _, _, _, rfl, hf, ht, hb⟩
/-- A function's end whose results are a struct of three cells in a block and an error. -/
theorem close3e {P : Program} {fn : Func} {p u : Tmp} {ty : TypeId} {D : TypeDesc} {Q : Ending → World → Prop} {a : Act} {Z : World} {g : Nat} {x y z e : Value} (hr : fn.results = #[.cell p ty, .tmp u]) (hp : a.tmps.getD p undef = .pointer (some ⟨g, 0, none⟩)) (hu' : a.tmps.getD u undef = e) (hd : a.defers = [])
    (hu : P.underlying ty = some D) (hD : D.isRow = true) (hi : (P.info? ty).map (·.size) = some 3) (hT : Three Z g x y z) (h : Q (.returned (.tuple #[.agg #[x, y, z], e])) Z) : bodyPost P fn Q .ret a Z := by
  have q := Blk.load3 hu hD hi hT
  exact bodyPost_ret (v := .tuple #[.agg #[x, y, z], e]) (by rw [results_cell_tmp hr, hp, hu']; simp [asAddr, Result.andThen, q]) hd h

set_option maxRecDepth 100000 in
set_option maxHeartbeats 2000000 in
theorem of_any (A A' : Option Addr) (n c n' c' B : Nat) (fs : List Fd) (vs : List Vl) (w : World) (hT : Tab w) (ha : Fds w B A n fs) (hc : n ≤ c) (hb : Vls w B A' n' vs) (hB : B ≤ w.heap.size) (hv : ∀ v ∈ vs, VB v ∧ v.l.length ≤ 1000000) :
    Calls Tryd.prog 21 #[.slice A n c, .slice A' n' c'] w (SpEPost w (ofS fs vs) (ofE fs vs)) := by
  have HL := Lib.hid (And.intro ha.length hb.length)
  have hm : n ≤ 9223372036854775807 := by have := ha.2.1; unfold maxLen at this; omega
  have hm' : n' ≤ 9223372036854775807 := by obtain ⟨css, q, _⟩ := hb; have := q.2.1; unfold maxLen at this; omega
  have HT := Lib.hid (fun V (h : Below w.heap.size w V) => hT.below h)
  have HP := Lib.hid (fun (hl : n' ≤ n) V (h : Below w.heap.size w V) => tput_any A A' n' c n' c' w.heap.size (fs.take n') vs V (HT.out _ h) (((ha.take hl).more hB).below h) ((hb.more hB).below h) h.size hv)
  clear ha hb hT hv
  generalize hW : w.alloc (.cells #[.slice none 0 0, .slice none 0 0, .bool false] 28) = W
  have HR := Lib.hid (show Three W w.heap.size (.slice none 0 0) (.slice none 0 0) (.bool false) from by subst hW; exact Three.new _ _ _ _ _)
  have HB := Lib.hid (show Below w.heap.size w W from by subst hW; exact (Below.refl _ _).alloc (Nat.le_refl _) _)
  have t0 := HR.out.t0
  have t1 := HR.out.t1
  have t2 := HR.out.t2
  have z0 := HR.out.fz 0
  have z1 := HR.out.fz 1
  have z2 := HR.out.fz 2
  by_cases h1 : n < n'
  · go_enter Tryd.func21, Tryd.ntmps21
    go_wp2_with fail
    clear hW
    go_wp2
    (try simp only [Exit.inBlock, Exit.then])
    refine close3e (g := w.heap.size) (x := .slice none 0 0) (y := .slice none 0 0) (z := .bool false) rfl rfl rfl rfl Tryd.underlying28 rfl size_sp ?_ ?_
    · exact HR.out.set3 _ _ _
    · obtain ⟨q1, q2⟩ := of_many (fs := fs) (vs := vs) (by rw [HL.out.1, HL.out.2]; exact h1)
      exact SpEPost.of q2 q1.symm Byt.none_ Byt.none_ (below_set3 HB.out (Nat.le_refl _) _ _ _)
  · have h2 : n' ≤ n := by omega
    have hc2 : (n' : Int) ≤ (c : Int) := by omega
    have HM := Lib.hid (show ¬ fs.length < vs.length from by rw [HL.out.1, HL.out.2]; exact h1)
    have HQ := Lib.hid (HP.out h2 _ HB.out)
    have HE := Lib.hid (show fs.take vs.length = fs.take n' from by rw [HL.out.2])
    clear HP
    generalize hX : putsE (fs.take n') vs = X at HQ
    have HX := Lib.hid hX
    clear hX
    go_enter Tryd.func21, Tryd.ntmps21
    go_wp2_with fail
    clear hW
    (with_reducible refine HQ.out.mono ?_)
    rintro e w1 ⟨A1, n1, c1, rfl, y1, nc1, hb1⟩
    have B1 := Lib.hid (HB.out.trans (hb1.mono HB.out.size))
    have R1 := Lib.hid (HR.out.below hb1 HR.out.lt)
    have Y1 := Lib.hid y1
    clear y1 hb1 t0 t1 t2 z0 z1 z2 HQ
    by_cases hE : X = 0
    · subst hE
      have N1 := Lib.hid (show n1 ≤ 1099511627776 from by have q := Y1.out.1; obtain ⟨_, _, _, q4, q5⟩ := putsE_zero HX.out; rw [q5] at q; omega)
      go_wp2_with fail
      (with_reducible refine (prefix_any A1 n1 c1 w1.heap.size _ w1 Y1.out (Nat.le_refl _) N1.out).mono ?_)
      rintro e w2 ⟨A2, n2, c2, A3, n3, c3, rfl, y2, y3, hb2⟩
      have B2 := Lib.hid (B1.out.trans (hb2.mono B1.out.size))
      have R2 := Lib.hid (R1.out.below hb2 R1.out.lt)
      have Y2 := Lib.hid y2
      have Y3 := Lib.hid y3
      clear y2 y3 hb2
      have t0 := R2.out.t0
      have t1 := R2.out.t1
      have t2 := R2.out.t2
      have z0 := R2.out.fz 0
      have z1 := R2.out.fz 1
      have z2 := R2.out.fz 2
      go_wp2
      (try simp only [Exit.inBlock, Exit.then])
      refine close3e (g := w.heap.size) (x := .slice A2 n2 c2) (y := .slice A3 n3 c3) (z := .bool (prefS (putsL (fs.take n') vs)).o) rfl rfl rfl rfl Tryd.underlying28 rfl size_sp ?_ ?_
      · exact R2.out.set3 _ _ _
      · obtain ⟨q1, q2⟩ := of_ok (fs := fs) (vs := vs) HM.out (by rw [HE.out]; exact HX.out)
        rw [HE.out] at q2
        refine SpEPost.of (f := (prefS (putsL (fs.take n') vs)).f) (t := (prefS (putsL (fs.take n') vs)).t) q2 q1.symm ?_ ?_ (below_set3 B2.out (Nat.le_refl _) _ _ _)
        · rw [size_set3]; exact R2.out.keep3 Y2.out _ _ _
        · rw [size_set3]; exact R2.out.keep3 Y3.out _ _ _
    · have t0 := R1.out.t0
      have t1 := R1.out.t1
      have t2 := R1.out.t2
      have z0 := R1.out.fz 0
      have z1 := R1.out.fz 1
      have z2 := R1.out.fz 2
      go_wp2
      (try simp only [Exit.inBlock, Exit.then])
      refine close3e (g := w.heap.size) (x := .slice none 0 0) (y := .slice none 0 0) (z := .bool false) rfl rfl rfl rfl Tryd.underlying28 rfl size_sp ?_ ?_
      · exact R1.out.set3 _ _ _
      · obtain ⟨q1, q2⟩ := of_bad (fs := fs) (vs := vs) HM.out (by rw [HE.out, HX.out]; exact hE)
        exact SpEPost.of q2 (by rw [q1, HE.out, HX.out]) Byt.none_ Byt.none_ (below_set3 B1.out (Nat.le_refl _) _ _ _)

set_option maxRecDepth 100000 in
set_option maxHeartbeats 2000000 in
theorem rof_any (A A' : Option Addr) (n c n' c' B : Nat) (fs : List Fd) (vs : List Vl) (w : World) (ha : Fds w B A n fs) (hc : n ≤ c) (hb : Vls w B A' n' vs) (hB : B ≤ w.heap.size) (hv : ∀ v ∈ vs, VB v ∧ v.l.length ≤ 1000000) :
    Calls Tryd.prog 24 #[.slice A n c, .slice A' n' c'] w (SpEPost w (ofS fs vs) (ofE fs vs)) := by
  have HL := Lib.hid (And.intro ha.length hb.length)
  have hm : n ≤ 9223372036854775807 := by have := ha.2.1; unfold maxLen at this; omega
  have hm' : n' ≤ 9223372036854775807 := by obtain ⟨css, q, _⟩ := hb; have := q.2.1; unfold maxLen at this; omega
  
  have HP := Lib.hid (fun (hl : n' ≤ n) V (h : Below w.heap.size w V) => rtput_any A A' n' c n' c' w.heap.size (fs.take n') vs V (((ha.take hl).more hB).below h) ((hb.more hB).below h) h.size hv)
  clear ha hb hv
  generalize hW : w.alloc (.cells #[.slice none 0 0, .slice none 0 0, .bool false] 24) = W
  have HR := Lib.hid (show Three W w.heap.size (.slice none 0 0) (.slice none 0 0) (.bool false) from by subst hW; exact Three.new _ _ _ _ _)
  have HB := Lib.hid (show Below w.heap.size w W from by subst hW; exact (Below.refl _ _).alloc (Nat.le_refl _) _)
  have t0 := HR.out.t0
  have t1 := HR.out.t1
  have t2 := HR.out.t2
  have z0 := HR.out.fz 0
  have z1 := HR.out.fz 1
  have z2 := HR.out.fz 2
  by_cases h1 : n < n'
  · go_enter Tryd.func24, Tryd.ntmps24
    go_wp2_with fail
    clear hW
    go_wp2
    (try simp only [Exit.inBlock, Exit.then])
    refine close3e (g := w.heap.size) (x := .slice none 0 0) (y := .slice none 0 0) (z := .bool false) rfl rfl rfl rfl Tryd.underlying24 rfl size_rsp ?_ ?_
    · exact HR.out.set3 _ _ _
    · obtain ⟨q1, q2⟩ := of_many (fs := fs) (vs := vs) (by rw [HL.out.1, HL.out.2]; exact h1)
      exact SpEPost.of q2 q1.symm Byt.none_ Byt.none_ (below_set3 HB.out (Nat.le_refl _) _ _ _)
  · have h2 : n' ≤ n := by omega
    have hc2 : (n' : Int) ≤ (c : Int) := by omega
    have HM := Lib.hid (show ¬ fs.length < vs.length from by rw [HL.out.1, HL.out.2]; exact h1)
    have HQ := Lib.hid (HP.out h2 _ HB.out)
    have HE := Lib.hid (show fs.take vs.length = fs.take n' from by rw [HL.out.2])
    clear HP
    generalize hX : putsE (fs.take n') vs = X at HQ
    have HX := Lib.hid hX
    clear hX
    go_enter Tryd.func24, Tryd.ntmps24
    go_wp2_with fail
    clear hW
    (with_reducible refine HQ.out.mono ?_)
    rintro e w1 ⟨A1, n1, c1, rfl, y1, nc1, hb1⟩
    have B1 := Lib.hid (HB.out.trans (hb1.mono HB.out.size))
    have R1 := Lib.hid (HR.out.below hb1 HR.out.lt)
    have Y1 := Lib.hid y1
    clear y1 hb1 t0 t1 t2 z0 z1 z2 HQ
    by_cases hE : X = 0
    · subst hE
      have N1 := Lib.hid (show n1 ≤ 1099511627776 from by have q := Y1.out.1; obtain ⟨_, _, _, q4, q5⟩ := putsE_zero HX.out; rw [q5] at q; omega)
      go_wp2_with fail
      (with_reducible refine (rprefix_any A1 n1 c1 w1.heap.size _ w1 Y1.out (Nat.le_refl _) nc1 N1.out).mono ?_)
      rintro e w2 ⟨A2, n2, c2, A3, n3, c3, rfl, y2, y3, hb2⟩
      have B2 := Lib.hid (B1.out.trans (hb2.mono B1.out.size))
      have R2 := Lib.hid (R1.out.below hb2 R1.out.lt)
      have Y2 := Lib.hid y2
      have Y3 := Lib.hid y3
      clear y2 y3 hb2
      have t0 := R2.out.t0
      have t1 := R2.out.t1
      have t2 := R2.out.t2
      have z0 := R2.out.fz 0
      have z1 := R2.out.fz 1
      have z2 := R2.out.fz 2
      go_wp2
      (try simp only [Exit.inBlock, Exit.then])
      refine close3e (g := w.heap.size) (x := .slice A2 n2 c2) (y := .slice A3 n3 c3) (z := .bool (prefS (putsL (fs.take n') vs)).o) rfl rfl rfl rfl Tryd.underlying24 rfl size_rsp ?_ ?_
      · exact R2.out.set3 _ _ _
      · obtain ⟨q1, q2⟩ := of_ok (fs := fs) (vs := vs) HM.out (by rw [HE.out]; exact HX.out)
        rw [HE.out] at q2
        refine SpEPost.of (f := (prefS (putsL (fs.take n') vs)).f) (t := (prefS (putsL (fs.take n') vs)).t) q2 q1.symm ?_ ?_ (below_set3 B2.out (Nat.le_refl _) _ _ _)
        · rw [size_set3]; exact R2.out.keep3 Y2.out _ _ _
        · rw [size_set3]; exact R2.out.keep3 Y3.out _ _ _
    · have t0 := R1.out.t0
      have t1 := R1.out.t1
      have t2 := R1.out.t2
      have z0 := R1.out.fz 0
      have z1 := R1.out.fz 1
      have z2 := R1.out.fz 2
      go_wp2
      (try simp only [Exit.inBlock, Exit.then])
      refine close3e (g := w.heap.size) (x := .slice none 0 0) (y := .slice none 0 0) (z := .bool false) rfl rfl rfl rfl Tryd.underlying24 rfl size_rsp ?_ ?_
      · exact R1.out.set3 _ _ _
      · obtain ⟨q1, q2⟩ := of_bad (fs := fs) (vs := vs) HM.out (by rw [HE.out, HX.out]; exact hE)
        exact SpEPost.of q2 (by rw [q1, HE.out, HX.out]) Byt.none_ Byt.none_ (below_set3 B1.out (Nat.le_refl _) _ _ _)
end Go.Proofs.YtofccfbiappgaaaDoor
