/-
  What bounds' Between and the document's Between answer: a span, or an error.
-/
import Derived.Test.YtofccfbiappgaaaDoorBndOf
namespace Go.Proofs.YtofccfbiappgaaaDoor
open Go.RowKit

set_option maxRecDepth 100000 in
set_option maxHeartbeats 4000000 in
theorem btw_any (A Aa Ab : Option Addr) (n c na ca nb cb B : Nat) (fs : List Fd) (a b : List Vl) (w : World) (hT : Tab w) (ha : Fds w B A n fs) (hc : n ≤ c) (hba : Vls w B Aa na a) (hbb : Vls w B Ab nb b) (hB : B ≤ w.heap.size) (hva : ∀ v ∈ a, VB v ∧ v.l.length ≤ 1000000) (hvb : ∀ v ∈ b, VB v ∧ v.l.length ≤ 1000000) :
    Calls Tryd.prog 25 #[.slice A n c, .slice Aa na ca, .slice Ab nb cb] w (SpEPost w (btwS fs a b) (btwE fs a b)) := by
  have HT := Lib.hid (fun V (h : Below w.heap.size w V) => hT.below h)
  have HP := Lib.hid (fun V (h : Below w.heap.size w V) => of_any A Aa n c na ca w.heap.size fs a V (HT.out _ h) ((ha.more hB).below h) hc ((hba.more hB).below h) h.size hva)
  have HQ := Lib.hid (fun V (h : Below w.heap.size w V) => of_any A Ab n c nb cb w.heap.size fs b V (HT.out _ h) ((ha.more hB).below h) hc ((hbb.more hB).below h) h.size hvb)
  clear ha hba hbb hT hva hvb
  have HXA := Lib.hid (@btw_one fs a b)
  have HXB := Lib.hid (@btw_two fs a b)
  have HXC := Lib.hid (@btw_empty fs a b)
  have HXD := Lib.hid (@btw_ok fs a b)
  have HX := Lib.hid (show btwX fs a b = ⟨(ofS fs a).f, (ofS fs b).t, (ofS fs b).o⟩ from rfl)
  generalize ofE fs a = ea at HP HXA HXB HXC HXD
  generalize ofE fs b = eb at HQ HXB HXC HXD
  generalize ofS fs a = sa at HP HX
  generalize ofS fs b = sb at HQ HX
  generalize btwX fs a b = sx at HXC HXD HX
  generalize btwE fs a b = er at HXA HXB HXC HXD ⊢
  generalize btwS fs a b = sr at HXA HXB HXC HXD ⊢
  obtain ⟨fa, ta, oa⟩ := sa
  obtain ⟨fb, tb, ob⟩ := sb
  simp only at HX
  generalize hW : w.alloc (.cells #[.slice none 0 0, .slice none 0 0, .bool false] 28) = W
  have HR := Lib.hid (show Three W w.heap.size (.slice none 0 0) (.slice none 0 0) (.bool false) from by subst hW; exact Three.new _ _ _ _ _)
  have HB := Lib.hid (show Below w.heap.size w W from by subst hW; exact (Below.refl _ _).alloc (Nat.le_refl _) _)
  go_enter Tryd.func25, Tryd.ntmps25
  go_wp2_with fail
  clear hW
  (with_reducible refine (HP.out _ HB.out).mono ?_)
  rintro e w1 ⟨A1, n1, c1, A2, n2, c2, rfl, y1, y2, hb1⟩
  simp only at y1 y2
  have B1 := Lib.hid (HB.out.trans (hb1.mono HB.out.size))
  have R1 := Lib.hid (HR.out.below hb1 HR.out.lt)
  have Y1 := Lib.hid y1
  clear hb1 y1 y2
  generalize hV : w1.alloc (.cells #[.slice A1 n1 c1, .slice A2 n2 c2, .bool oa] 28) = V
  have FV := Lib.hid (show Three V w1.heap.size (.slice A1 n1 c1) (.slice A2 n2 c2) (.bool oa) from by subst hV; exact Three.new _ _ _ _ _)
  have RV := Lib.hid (show Three V w.heap.size (.slice none 0 0) (.slice none 0 0) (.bool false) from by subst hV; exact R1.out.alloc _)
  have BV := Lib.hid (show Below w.heap.size w V from by subst hV; exact B1.out.alloc B1.out.size _)
  have YV := Lib.hid (show Byt V w1.heap.size A1 n1 fa from by subst hV; exact Y1.out.alloc (Nat.le_refl _) _)
  have SV := Lib.hid (show w1.heap.size ≤ V.heap.size from by subst hV; simp)
  clear R1 Y1
  by_cases hea : ea = 0
  · subst hea
    go_wp2_with fail
    clear hV
    (with_reducible refine (HQ.out _ BV.out).mono ?_)
    rintro e w2 ⟨A3, n3, c3, A4, n4, c4, rfl, y3, y4, hb2⟩
    simp only at y3 y4
    have B2 := Lib.hid (BV.out.trans (hb2.mono BV.out.size))
    have R2 := Lib.hid (RV.out.below hb2 RV.out.lt)
    have F2 := Lib.hid (FV.out.below hb2 FV.out.lt)
    have Y1 := Lib.hid ((YV.out.more SV.out).below hb2)
    have Y4 := Lib.hid y4
    have S2 := Lib.hid hb2.size
    clear hb2 y3 y4
    by_cases heb : eb = 0
    · subst heb
      generalize hU : w2.alloc (.cells #[.slice A3 n3 c3, .slice A4 n4 c4, .bool ob] 28) = U
      have GU := Lib.hid (show Three U w2.heap.size (.slice A3 n3 c3) (.slice A4 n4 c4) (.bool ob) from by subst hU; exact Three.new _ _ _ _ _)
      have FU := Lib.hid (show Three U w1.heap.size (.slice A1 n1 c1) (.slice A2 n2 c2) (.bool oa) from by subst hU; exact F2.out.alloc _)
      have RU := Lib.hid (show Three U w.heap.size (.slice none 0 0) (.slice none 0 0) (.bool false) from by subst hU; exact R2.out.alloc _)
      have BU := Lib.hid (show Below w.heap.size w U from by subst hU; exact B2.out.alloc B2.out.size _)
      have YU := Lib.hid (show Byt U U.heap.size A1 n1 fa from by subst hU; exact ((Y1.out.more S2.out).alloc (Nat.le_refl _) _).more (by simp))
      have ZU := Lib.hid (show Byt U U.heap.size A4 n4 tb from by subst hU; exact (Y4.out.alloc (Nat.le_refl _) _).more (by simp))
      clear R2 F2 Y1 Y4
      have f0 := FU.out.t0
      have g1 := GU.out.t1
      have g2 := GU.out.t2
      generalize hZ : U.alloc (.cells #[.slice A1 n1 c1, .slice A4 n4 c4, .bool ob] 28) = Z
      have KZ := Lib.hid (show Three Z U.heap.size (.slice A1 n1 c1) (.slice A4 n4 c4) (.bool ob) from by subst hZ; exact Three.new _ _ _ _ _)
      have RZ := Lib.hid (show Three Z w.heap.size (.slice none 0 0) (.slice none 0 0) (.bool false) from by subst hZ; exact RU.out.alloc _)
      have BZ := Lib.hid (show Below w.heap.size w Z from by subst hZ; exact BU.out.alloc BU.out.size _)
      have YZ := Lib.hid (show Byt Z Z.heap.size A1 n1 fa from by subst hZ; exact (YU.out.alloc (Nat.le_refl _) _).more (by simp))
      have ZZ := Lib.hid (show Byt Z Z.heap.size A4 n4 tb from by subst hZ; exact (ZU.out.alloc (Nat.le_refl _) _).more (by simp))
      have k0 := KZ.out.t0
      have k1 := KZ.out.t1
      have k2 := KZ.out.t2
      go_wp2_with fail
      clear hU hZ
      (with_reducible refine (empty_any A1 A4 n1 c1 n4 c4 Z.heap.size fa tb ob Z YZ.out ZZ.out (Nat.le_refl _)).mono ?_)
      rintro e w3 ⟨rfl, hb3⟩
      have B3 := Lib.hid (BZ.out.trans (hb3.mono BZ.out.size))
      have R3 := Lib.hid (RZ.out.below hb3 RZ.out.lt)
      have K3 := Lib.hid (KZ.out.below hb3 KZ.out.lt)
      have Y3 := Lib.hid ((YZ.out.below hb3).more hb3.size)
      have Z3 := Lib.hid ((ZZ.out.below hb3).more hb3.size)
      clear hb3 f0 g1 g2 k0 k1 k2
      have t0 := R3.out.t0
      have t1 := R3.out.t1
      have t2 := R3.out.t2
      have z0 := R3.out.fz 0
      have z1 := R3.out.fz 1
      have z2 := R3.out.fz 2
      have k0 := K3.out.t0
      have k1 := K3.out.t1
      have k2 := K3.out.t2
      generalize hem : emptyS ⟨fa, tb, ob⟩ = em
      have HEM := Lib.hid hem
      clear hem
      cases em with
      | true =>
        go_wp2
        (try simp only [Exit.inBlock, Exit.then])
        refine close3e (g := w.heap.size) (x := .slice none 0 0) (y := .slice none 0 0) (z := .bool false) rfl rfl rfl rfl Tryd.underlying28 rfl size_sp ?_ ?_
        · exact R3.out.set3 _ _ _
        · obtain ⟨q1, q2⟩ := HXC.out (by trivial) (by trivial) (by rw [HX.out]; exact HEM.out)
          exact SpEPost.of q2 q1.symm Byt.none_ Byt.none_ (below_set3 B3.out (Nat.le_refl _) _ _ _)
      | false =>
        go_wp2
        (try simp only [Exit.inBlock, Exit.then])
        refine close3e (g := w.heap.size) (x := .slice A1 n1 c1) (y := .slice A4 n4 c4) (z := .bool ob) rfl rfl rfl rfl Tryd.underlying28 rfl size_sp ?_ ?_
        · exact R3.out.set3 _ _ _
        · obtain ⟨q1, q2⟩ := HXD.out (by trivial) (by trivial) (by rw [HX.out]; exact HEM.out)
          rw [HX.out] at q2
          refine SpEPost.of q2 q1.symm ?_ ?_ (below_set3 B3.out (Nat.le_refl _) _ _ _)
          · rw [size_set3]; exact R3.out.keep3 Y3.out _ _ _
          · rw [size_set3]; exact R3.out.keep3 Z3.out _ _ _
    · generalize hU : w2.alloc (.cells #[.slice A3 n3 c3, .slice A4 n4 c4, .bool ob] 28) = U
      have RU := Lib.hid (show Three U w.heap.size (.slice none 0 0) (.slice none 0 0) (.bool false) from by subst hU; exact R2.out.alloc _)
      have BU := Lib.hid (show Below w.heap.size w U from by subst hU; exact B2.out.alloc B2.out.size _)
      have t0 := RU.out.t0
      have t1 := RU.out.t1
      have t2 := RU.out.t2
      have z0 := RU.out.fz 0
      have z1 := RU.out.fz 1
      have z2 := RU.out.fz 2
      go_wp2_with fail
      clear hU
      go_wp2
      (try simp only [Exit.inBlock, Exit.then])
      refine close3e (g := w.heap.size) (x := .slice none 0 0) (y := .slice none 0 0) (z := .bool false) rfl rfl rfl rfl Tryd.underlying28 rfl size_sp ?_ ?_
      · exact RU.out.set3 _ _ _
      · obtain ⟨q1, q2⟩ := HXB.out (by trivial) heb
        exact SpEPost.of q2 q1.symm Byt.none_ Byt.none_ (below_set3 BU.out (Nat.le_refl _) _ _ _)
  · have t0 := RV.out.t0
    have t1 := RV.out.t1
    have t2 := RV.out.t2
    have z0 := RV.out.fz 0
    have z1 := RV.out.fz 1
    have z2 := RV.out.fz 2
    go_wp2_with fail
    clear hV
    go_wp2
    (try simp only [Exit.inBlock, Exit.then])
    refine close3e (g := w.heap.size) (x := .slice none 0 0) (y := .slice none 0 0) (z := .bool false) rfl rfl rfl rfl Tryd.underlying28 rfl size_sp ?_ ?_
    · exact RV.out.set3 _ _ _
    · obtain ⟨q1, q2⟩ := HXA.out hea
      exact SpEPost.of q2 q1.symm Byt.none_ Byt.none_ (below_set3 BV.out (Nat.le_refl _) _ _ _)

set_option maxRecDepth 100000 in
set_option maxHeartbeats 4000000 in
theorem rbtw_any (A Aa Ab : Option Addr) (n c na ca nb cb B : Nat) (fs : List Fd) (a b : List Vl) (w : World) (ha : Fds w B A n fs) (hc : n ≤ c) (hba : Vls w B Aa na a) (hbb : Vls w B Ab nb b) (hB : B ≤ w.heap.size) (hva : ∀ v ∈ a, VB v ∧ v.l.length ≤ 1000000) (hvb : ∀ v ∈ b, VB v ∧ v.l.length ≤ 1000000) :
    Calls Tryd.prog 26 #[.slice A n c, .slice Aa na ca, .slice Ab nb cb] w (SpEPost w (btwS fs a b) (btwE fs a b)) := by
  have HP := Lib.hid (fun V (h : Below w.heap.size w V) => rof_any A Aa n c na ca w.heap.size fs a V ((ha.more hB).below h) hc ((hba.more hB).below h) h.size hva)
  have HQ := Lib.hid (fun V (h : Below w.heap.size w V) => rof_any A Ab n c nb cb w.heap.size fs b V ((ha.more hB).below h) hc ((hbb.more hB).below h) h.size hvb)
  clear ha hba hbb hva hvb
  have HXA := Lib.hid (@btw_one fs a b)
  have HXB := Lib.hid (@btw_two fs a b)
  have HXC := Lib.hid (@btw_empty fs a b)
  have HXD := Lib.hid (@btw_ok fs a b)
  have HX := Lib.hid (show btwX fs a b = ⟨(ofS fs a).f, (ofS fs b).t, (ofS fs b).o⟩ from rfl)
  generalize ofE fs a = ea at HP HXA HXB HXC HXD
  generalize ofE fs b = eb at HQ HXB HXC HXD
  generalize ofS fs a = sa at HP HX
  generalize ofS fs b = sb at HQ HX
  generalize btwX fs a b = sx at HXC HXD HX
  generalize btwE fs a b = er at HXA HXB HXC HXD ⊢
  generalize btwS fs a b = sr at HXA HXB HXC HXD ⊢
  obtain ⟨fa, ta, oa⟩ := sa
  obtain ⟨fb, tb, ob⟩ := sb
  simp only at HX
  generalize hW : w.alloc (.cells #[.slice none 0 0, .slice none 0 0, .bool false] 24) = W
  have HR := Lib.hid (show Three W w.heap.size (.slice none 0 0) (.slice none 0 0) (.bool false) from by subst hW; exact Three.new _ _ _ _ _)
  have HB := Lib.hid (show Below w.heap.size w W from by subst hW; exact (Below.refl _ _).alloc (Nat.le_refl _) _)
  go_enter Tryd.func26, Tryd.ntmps26
  go_wp2_with fail
  clear hW
  (with_reducible refine (HP.out _ HB.out).mono ?_)
  rintro e w1 ⟨A1, n1, c1, A2, n2, c2, rfl, y1, y2, hb1⟩
  simp only at y1 y2
  have B1 := Lib.hid (HB.out.trans (hb1.mono HB.out.size))
  have R1 := Lib.hid (HR.out.below hb1 HR.out.lt)
  have Y1 := Lib.hid y1
  clear hb1 y1 y2
  generalize hV : w1.alloc (.cells #[.slice A1 n1 c1, .slice A2 n2 c2, .bool oa] 24) = V
  have FV := Lib.hid (show Three V w1.heap.size (.slice A1 n1 c1) (.slice A2 n2 c2) (.bool oa) from by subst hV; exact Three.new _ _ _ _ _)
  have RV := Lib.hid (show Three V w.heap.size (.slice none 0 0) (.slice none 0 0) (.bool false) from by subst hV; exact R1.out.alloc _)
  have BV := Lib.hid (show Below w.heap.size w V from by subst hV; exact B1.out.alloc B1.out.size _)
  have YV := Lib.hid (show Byt V w1.heap.size A1 n1 fa from by subst hV; exact Y1.out.alloc (Nat.le_refl _) _)
  have SV := Lib.hid (show w1.heap.size ≤ V.heap.size from by subst hV; simp)
  clear R1 Y1
  by_cases hea : ea = 0
  · subst hea
    go_wp2_with fail
    clear hV
    (with_reducible refine (HQ.out _ BV.out).mono ?_)
    rintro e w2 ⟨A3, n3, c3, A4, n4, c4, rfl, y3, y4, hb2⟩
    simp only at y3 y4
    have B2 := Lib.hid (BV.out.trans (hb2.mono BV.out.size))
    have R2 := Lib.hid (RV.out.below hb2 RV.out.lt)
    have F2 := Lib.hid (FV.out.below hb2 FV.out.lt)
    have Y1 := Lib.hid ((YV.out.more SV.out).below hb2)
    have Y4 := Lib.hid y4
    have S2 := Lib.hid hb2.size
    clear hb2 y3 y4
    by_cases heb : eb = 0
    · subst heb
      generalize hU : w2.alloc (.cells #[.slice A3 n3 c3, .slice A4 n4 c4, .bool ob] 24) = U
      have GU := Lib.hid (show Three U w2.heap.size (.slice A3 n3 c3) (.slice A4 n4 c4) (.bool ob) from by subst hU; exact Three.new _ _ _ _ _)
      have FU := Lib.hid (show Three U w1.heap.size (.slice A1 n1 c1) (.slice A2 n2 c2) (.bool oa) from by subst hU; exact F2.out.alloc _)
      have RU := Lib.hid (show Three U w.heap.size (.slice none 0 0) (.slice none 0 0) (.bool false) from by subst hU; exact R2.out.alloc _)
      have BU := Lib.hid (show Below w.heap.size w U from by subst hU; exact B2.out.alloc B2.out.size _)
      have YU := Lib.hid (show Byt U U.heap.size A1 n1 fa from by subst hU; exact ((Y1.out.more S2.out).alloc (Nat.le_refl _) _).more (by simp))
      have ZU := Lib.hid (show Byt U U.heap.size A4 n4 tb from by subst hU; exact (Y4.out.alloc (Nat.le_refl _) _).more (by simp))
      clear R2 F2 Y1 Y4
      have f0 := FU.out.t0
      have g1 := GU.out.t1
      have g2 := GU.out.t2
      generalize hZ : U.alloc (.cells #[.slice A1 n1 c1, .slice A4 n4 c4, .bool ob] 24) = Z
      have KZ := Lib.hid (show Three Z U.heap.size (.slice A1 n1 c1) (.slice A4 n4 c4) (.bool ob) from by subst hZ; exact Three.new _ _ _ _ _)
      have RZ := Lib.hid (show Three Z w.heap.size (.slice none 0 0) (.slice none 0 0) (.bool false) from by subst hZ; exact RU.out.alloc _)
      have BZ := Lib.hid (show Below w.heap.size w Z from by subst hZ; exact BU.out.alloc BU.out.size _)
      have YZ := Lib.hid (show Byt Z Z.heap.size A1 n1 fa from by subst hZ; exact (YU.out.alloc (Nat.le_refl _) _).more (by simp))
      have ZZ := Lib.hid (show Byt Z Z.heap.size A4 n4 tb from by subst hZ; exact (ZU.out.alloc (Nat.le_refl _) _).more (by simp))
      have k0 := KZ.out.t0
      have k1 := KZ.out.t1
      have k2 := KZ.out.t2
      go_wp2_with fail
      clear hU hZ
      (with_reducible refine (rempty_any A1 A4 n1 c1 n4 c4 Z.heap.size fa tb ob Z YZ.out ZZ.out (Nat.le_refl _)).mono ?_)
      rintro e w3 ⟨rfl, hb3⟩
      have B3 := Lib.hid (BZ.out.trans (hb3.mono BZ.out.size))
      have R3 := Lib.hid (RZ.out.below hb3 RZ.out.lt)
      have K3 := Lib.hid (KZ.out.below hb3 KZ.out.lt)
      have Y3 := Lib.hid ((YZ.out.below hb3).more hb3.size)
      have Z3 := Lib.hid ((ZZ.out.below hb3).more hb3.size)
      clear hb3 f0 g1 g2 k0 k1 k2
      have t0 := R3.out.t0
      have t1 := R3.out.t1
      have t2 := R3.out.t2
      have z0 := R3.out.fz 0
      have z1 := R3.out.fz 1
      have z2 := R3.out.fz 2
      have k0 := K3.out.t0
      have k1 := K3.out.t1
      have k2 := K3.out.t2
      generalize hem : emptyS ⟨fa, tb, ob⟩ = em
      have HEM := Lib.hid hem
      clear hem
      cases em with
      | true =>
        go_wp2
        (try simp only [Exit.inBlock, Exit.then])
        refine close3e (g := w.heap.size) (x := .slice none 0 0) (y := .slice none 0 0) (z := .bool false) rfl rfl rfl rfl Tryd.underlying24 rfl size_rsp ?_ ?_
        · exact R3.out.set3 _ _ _
        · obtain ⟨q1, q2⟩ := HXC.out (by trivial) (by trivial) (by rw [HX.out]; exact HEM.out)
          exact SpEPost.of q2 q1.symm Byt.none_ Byt.none_ (below_set3 B3.out (Nat.le_refl _) _ _ _)
      | false =>
        go_wp2
        (try simp only [Exit.inBlock, Exit.then])
        refine close3e (g := w.heap.size) (x := .slice A1 n1 c1) (y := .slice A4 n4 c4) (z := .bool ob) rfl rfl rfl rfl Tryd.underlying24 rfl size_rsp ?_ ?_
        · exact R3.out.set3 _ _ _
        · obtain ⟨q1, q2⟩ := HXD.out (by trivial) (by trivial) (by rw [HX.out]; exact HEM.out)
          rw [HX.out] at q2
          refine SpEPost.of q2 q1.symm ?_ ?_ (below_set3 B3.out (Nat.le_refl _) _ _ _)
          · rw [size_set3]; exact R3.out.keep3 Y3.out _ _ _
          · rw [size_set3]; exact R3.out.keep3 Z3.out _ _ _
    · generalize hU : w2.alloc (.cells #[.slice A3 n3 c3, .slice A4 n4 c4, .bool ob] 24) = U
      have RU := Lib.hid (show Three U w.heap.size (.slice none 0 0) (.slice none 0 0) (.bool false) from by subst hU; exact R2.out.alloc _)
      have BU := Lib.hid (show Below w.heap.size w U from by subst hU; exact B2.out.alloc B2.out.size _)
      have t0 := RU.out.t0
      have t1 := RU.out.t1
      have t2 := RU.out.t2
      have z0 := RU.out.fz 0
      have z1 := RU.out.fz 1
      have z2 := RU.out.fz 2
      go_wp2_with fail
      clear hU
      go_wp2
      (try simp only [Exit.inBlock, Exit.then])
      refine close3e (g := w.heap.size) (x := .slice none 0 0) (y := .slice none 0 0) (z := .bool false) rfl rfl rfl rfl Tryd.underlying24 rfl size_rsp ?_ ?_
      · exact RU.out.set3 _ _ _
      · obtain ⟨q1, q2⟩ := HXB.out (by trivial) heb
        exact SpEPost.of q2 q1.symm Byt.none_ Byt.none_ (below_set3 BU.out (Nat.le_refl _) _ _ _)
  · have t0 := RV.out.t0
    have t1 := RV.out.t1
    have t2 := RV.out.t2
    have z0 := RV.out.fz 0
    have z1 := RV.out.fz 1
    have z2 := RV.out.fz 2
    go_wp2_with fail
    clear hV
    go_wp2
    (try simp only [Exit.inBlock, Exit.then])
    refine close3e (g := w.heap.size) (x := .slice none 0 0) (y := .slice none 0 0) (z := .bool false) rfl rfl rfl rfl Tryd.underlying24 rfl size_rsp ?_ ?_
    · exact RV.out.set3 _ _ _
    · obtain ⟨q1, q2⟩ := HXA.out hea
      exact SpEPost.of q2 q1.symm Byt.none_ Byt.none_ (below_set3 BV.out (Nat.le_refl _) _ _ _)
end Go.Proofs.YtofccfbiappgaaaDoor
