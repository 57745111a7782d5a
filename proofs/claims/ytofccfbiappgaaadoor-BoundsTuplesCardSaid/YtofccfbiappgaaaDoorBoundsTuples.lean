/-
  Proved here: the spans of any first values, and between any two, as bounds.Of and Between tell them, are the document's, or refused; a tuple's bytes are had by the span of other first values just if its own ones are the same; nothing that came in is turned. The one condition is the card's own: the table of the widths lies as the program's text lays it (tied).
-/
import Derived.Test.YtofccfbiappgaaaDoorBndFar
import Derived.Test.YtofccfbiappgaaaDoorBndB
import Derived.Test.YtofccfbiappgaaaDoorBndAlive
import Derived.Test.YtofccfbiappgaaaDoorBndRMeet
import Derived.Test.YtofccfbiappgaaaDoorBndBtw
import Derived.Test.YtofccfbiappgaaaDoorTupCmp
import Derived.Test.YtofccfbiappgaaaDoorBndRow
import Derived.Test.YtofccfbiappgaaaDoorTie
import Derived.Test.YtofccfbiappgaaaDoorCards
import Derived.SevenTiedAt
import Derived.Deep.RegionHeld3
import Derived.Deep.DeepCutAuto
namespace Go.Proofs.YtofccfbiappgaaaDoor.boundsTuples
open Go.ChangeShapes Go.WideShapes Go.ChangeAt Go.RowKit

set_option maxRecDepth 100000 in
theorem of_c (A A' : Option Addr) (n c n' c' B : Nat) (fs : List Fd) (vs : List Vl) (s : Sp) (er : Int) (w : World) (hT : Tab w) (ha : Fds w B A n fs) (hc : n ≤ c) (hb : Vls w B A' n' vs) (hB : B ≤ w.heap.size) (hv : ∀ v ∈ vs, VB v ∧ v.l.length ≤ 1000000) (hs : ofS fs vs = s) (he : ofE fs vs = er) :
    Calls Tryd.prog 21 #[.slice A n c, .slice A' n' c'] w (SpEPost w s er) := by
  subst hs he
  exact of_any A A' n c n' c' B fs vs w hT ha hc hb hB hv
set_option maxRecDepth 100000 in
theorem rof_c (A A' : Option Addr) (n c n' c' B : Nat) (fs : List Fd) (vs : List Vl) (s : Sp) (er : Int) (w : World) (ha : Fds w B A n fs) (hc : n ≤ c) (hb : Vls w B A' n' vs) (hB : B ≤ w.heap.size) (hv : ∀ v ∈ vs, VB v ∧ v.l.length ≤ 1000000) (hs : ofS fs vs = s) (he : ofE fs vs = er) :
    Calls Tryd.prog 24 #[.slice A n c, .slice A' n' c'] w (SpEPost w s er) := by
  subst hs he
  exact rof_any A A' n c n' c' B fs vs w ha hc hb hB hv
set_option maxRecDepth 100000 in
theorem btw_c (A Aa Ab : Option Addr) (n c na ca nb cb B : Nat) (fs : List Fd) (a b : List Vl) (s : Sp) (er : Int) (w : World) (hT : Tab w) (ha : Fds w B A n fs) (hc : n ≤ c) (hba : Vls w B Aa na a) (hbb : Vls w B Ab nb b) (hB : B ≤ w.heap.size) (hva : ∀ v ∈ a, VB v ∧ v.l.length ≤ 1000000) (hvb : ∀ v ∈ b, VB v ∧ v.l.length ≤ 1000000) (hs : btwS fs a b = s) (he : btwE fs a b = er) :
    Calls Tryd.prog 25 #[.slice A n c, .slice Aa na ca, .slice Ab nb cb] w (SpEPost w s er) := by
  subst hs he
  exact btw_any A Aa Ab n c na ca nb cb B fs a b w hT ha hc hba hbb hB hva hvb
set_option maxRecDepth 100000 in
theorem rbtw_c (A Aa Ab : Option Addr) (n c na ca nb cb B : Nat) (fs : List Fd) (a b : List Vl) (s : Sp) (er : Int) (w : World) (ha : Fds w B A n fs) (hc : n ≤ c) (hba : Vls w B Aa na a) (hbb : Vls w B Ab nb b) (hB : B ≤ w.heap.size) (hva : ∀ v ∈ a, VB v ∧ v.l.length ≤ 1000000) (hvb : ∀ v ∈ b, VB v ∧ v.l.length ≤ 1000000) (hs : btwS fs a b = s) (he : btwE fs a b = er) :
    Calls Tryd.prog 26 #[.slice A n c, .slice Aa na ca, .slice Ab nb cb] w (SpEPost w s er) := by
  subst hs he
  exact rbtw_any A Aa Ab n c na ca nb cb B fs a b w ha hc hba hbb hB hva hvb
set_option maxRecDepth 100000 in
theorem rtput_c (A A' : Option Addr) (n c n' c' B : Nat) (fs : List Fd) (vs : List Vl) (er : Int) (w : World) (ha : Fds w B A n fs) (hb : Vls w B A' n' vs) (hB : B ≤ w.heap.size) (hv : ∀ v ∈ vs, VB v ∧ v.l.length ≤ 1000000) (he : putsE fs vs = er) :
    Calls Tryd.prog 27 #[.slice A n c, .slice A' n' c'] w (TPost w (putsL fs vs) er) := by
  subst he
  exact rtput_any A A' n c n' c' B fs vs w ha hb hB hv
set_option maxRecDepth 100000 in
theorem rtcmp_c (A A1 A2 : Option Addr) (n c n1 c1 n2 c2 B : Nat) (fs : List Fd) (a b : List Vl) (x : Int) (w : World) (ha : Fds w B A n fs) (hb : Vls w B A1 n1 a) (hd : Vls w B A2 n2 b) (hB : B ≤ w.heap.size) (hx : cmpT fs a b = x) :
    Calls Tryd.prog 28 #[.slice A n c, .slice A1 n1 c1, .slice A2 n2 c2] w fun e w' => e = .returned (.int .i64 x) ∧ Below w.heap.size w w' := by
  subst hx
  exact rtcmp_any A A1 A2 n c n1 c1 n2 c2 B fs a b w ha hb hd hB
set_option maxRecDepth 100000 in
set_option maxHeartbeats 16000000 in
theorem walk (A : Option Addr) (n c : Nat) (fs : List Fd) (A0 : Option Addr) (n0 c0 : Nat) (a : List Vl) (A1 : Option Addr) (n1 c1 : Nat) (b : List Vl) (A2 : Option Addr) (n2 c2 : Nat) (d : List Vl) (w : World) (hT : Tab w) (ha : Fds w w.heap.size A n fs) (hac : n ≤ c) (h0 : Vls w w.heap.size A0 n0 a ∧ n0 ≤ c0 ∧ ∀ v ∈ a, VB v) (h1 : Vls w w.heap.size A1 n1 b ∧ n1 ≤ c1 ∧ ∀ v ∈ b, VB v) (h2 : Vls w w.heap.size A2 n2 d ∧ n2 ≤ c2 ∧ ∀ v ∈ d, VB v) :
    Calls Tryd.prog 5 #[.slice A n c, .agg #[.slice A0 n0 c0, .slice A1 n1 c1, .slice A2 n2 c2]] w fun e w' => e = .returned (.bool true) ∧ Below w.heap.size w w' := by
  have hm : n ≤ 9223372036854775807 := by have := ha.2.1; unfold maxLen at this; omega
  obtain ⟨h0, nc0, vb0⟩ := h0
  obtain ⟨h1, nc1, vb1⟩ := h1
  obtain ⟨h2, nc2, vb2⟩ := h2
  have hm0 : n0 ≤ 9223372036854775807 := by obtain ⟨_, q, _⟩ := h0; have := q.2.1; unfold maxLen at this; omega
  have hm1 : n1 ≤ 9223372036854775807 := by obtain ⟨_, q, _⟩ := h1; have := q.2.1; unfold maxLen at this; omega
  have hm2 : n2 ≤ 9223372036854775807 := by obtain ⟨_, q, _⟩ := h2; have := q.2.1; unfold maxLen at this; omega
  have HN := Lib.hid (And.intro ha.length (And.intro h0.length (And.intro h1.length h2.length)))
  have HVB := Lib.hid (And.intro vb0 (And.intro vb1 vb2))
  generalize hW : w.alloc (.cells #[.slice A0 n0 c0, .slice A1 n1 c1, .slice A2 n2 c2] 44) = W
  have HA := Lib.hid (show ∀ V, Below W.heap.size W V → Three V w.heap.size (.slice A0 n0 c0) (.slice A1 n1 c1) (.slice A2 n2 c2) ∧ Fds V w.heap.size A n fs ∧ Vls V w.heap.size A0 n0 a ∧ Vls V w.heap.size A1 n1 b ∧ Vls V w.heap.size A2 n2 d ∧ Tab V ∧ Below w.heap.size w V from fun V h => by
    have hw : Below w.heap.size w W := by subst hW; exact (Below.refl _ _).alloc (Nat.le_refl _) _
    have hv : Below w.heap.size w V := hw.trans (h.mono hw.size)
    have ht : Three W w.heap.size (.slice A0 n0 c0) (.slice A1 n1 c1) (.slice A2 n2 c2) := by subst hW; exact Three.new _ _ _ _ _
    exact ⟨ht.below h ht.lt, ha.below hv, h0.below hv, h1.below hv, h2.below hv, hT.below hv, hv⟩)
  have B0 := Lib.hid (Below.refl W.heap.size W)
  clear ha h0 h1 h2 hT vb0 vb1 vb2
  have x0 := (HA.out _ B0.out).1.t0
  have x1 := (HA.out _ B0.out).1.t1
  have x2 := (HA.out _ B0.out).1.t2
  by_cases g : 12 < n
  · go_enter Tryd.func5, Tryd.ntmps5
    go_wp2_with fail
    clear hW
    go_wp2_with fail
    (with_reducible refine (balive_any _ (HA.out _ B0.out).2.2.2.2.2.1).mono ?_)
    rintro e wz ⟨rfl, hz⟩
    have BZ := Lib.hid ((HA.out _ B0.out).2.2.2.2.2.2.trans (hz.mono (HA.out _ B0.out).2.2.2.2.2.2.size))
    clear hz
    go_wp2
    go_ret
    exact ⟨rfl, BZ.out⟩
  by_cases g0 : 12 < n0
  · go_enter Tryd.func5, Tryd.ntmps5
    go_wp2_with fail
    clear hW
    go_wp2_with fail
    (with_reducible refine (balive_any _ (HA.out _ B0.out).2.2.2.2.2.1).mono ?_)
    rintro e wz ⟨rfl, hz⟩
    have BZ := Lib.hid ((HA.out _ B0.out).2.2.2.2.2.2.trans (hz.mono (HA.out _ B0.out).2.2.2.2.2.2.size))
    clear hz
    go_wp2
    go_ret
    exact ⟨rfl, BZ.out⟩
  by_cases g1 : 12 < n1
  · go_enter Tryd.func5, Tryd.ntmps5
    go_wp2_with fail
    clear hW
    go_wp2_with fail
    (with_reducible refine (balive_any _ (HA.out _ B0.out).2.2.2.2.2.1).mono ?_)
    rintro e wz ⟨rfl, hz⟩
    have BZ := Lib.hid ((HA.out _ B0.out).2.2.2.2.2.2.trans (hz.mono (HA.out _ B0.out).2.2.2.2.2.2.size))
    clear hz
    go_wp2
    go_ret
    exact ⟨rfl, BZ.out⟩
  by_cases g2 : 12 < n2
  · go_enter Tryd.func5, Tryd.ntmps5
    go_wp2_with fail
    clear hW
    go_wp2_with fail
    (with_reducible refine (balive_any _ (HA.out _ B0.out).2.2.2.2.2.1).mono ?_)
    rintro e wz ⟨rfl, hz⟩
    have BZ := Lib.hid ((HA.out _ B0.out).2.2.2.2.2.2.trans (hz.mono (HA.out _ B0.out).2.2.2.2.2.2.size))
    clear hz
    go_wp2
    go_ret
    exact ⟨rfl, BZ.out⟩
  go_enter Tryd.func5, Tryd.ntmps5
  go_wp2
  clear hW x0 x1 x2
  go_loopw [43] (fun i wr => ∃ k : Nat, k ≤ 3 ∧ i = .int .i64 k ∧ Hid (∀ (j : Nat) (vs : List Vl), j < k → [a, b, d][j]? = some vs → ∀ v ∈ vs, v.l.length ≤ 300) ∧ Hid (Below W.heap.size W wr)) (fun i _ => 3 - (intOf i).toNat)
  case atStart => exact ⟨0, Nat.zero_le _, rfl, Lib.hid (fun j vs hj => by omega), B0⟩
  case round =>
    obtain ⟨k, hk, rfl, HS, HB⟩ := hrel
    by_cases hk3 : k < 3
    · obtain ⟨At, nt, ct, vs, hidx, HV, HTT, hnt⟩ : ∃ At nt ct vs, (∀ V, (Instr.index 44 (.agg #[.slice A0 n0 c0, .slice A1 n1 c1, .slice A2 n2 c2]) (.int .i64 (k : Int))).run Tryd.prog V = .ok (.slice At nt ct) V) ∧ Hid (∀ V, Below W.heap.size W V → Vls V w.heap.size At nt vs) ∧ Hid ([a, b, d][k]? = some vs) ∧ nt ≤ 12 := by
        rcases (by omega : k = 0 ∨ k = 1 ∨ k = 2) with rfl | rfl | rfl
        · exact ⟨A0, n0, c0, a, fun V => by kernel_rfl, fun V h => (HA.out _ h).2.2.1, rfl, by omega⟩
        · exact ⟨A1, n1, c1, b, fun V => by kernel_rfl, fun V h => (HA.out _ h).2.2.2.1, rfl, by omega⟩
        · exact ⟨A2, n2, c2, d, fun V => by kernel_rfl, fun V h => (HA.out _ h).2.2.2.2.1, rfl, by omega⟩
      have HL := Lib.hid (HV.out _ HB.out).length
      go_wp2
      clear hidx
      go_loopw [48] (fun i wr2 => ∃ j : Nat, j ≤ nt ∧ i = .int .i64 j ∧ Hid (∀ (x : Nat) (v : Vl), x < j → vs[x]? = some v → v.l.length ≤ 300) ∧ Hid (Below W.heap.size W wr2)) (fun i _ => nt - (intOf i).toNat)
      case atStart => exact ⟨0, Nat.zero_le _, rfl, Lib.hid (fun x v hx => by omega), HB⟩
      case round =>
        clear HB
        obtain ⟨j, hj, rfl, HO, HB⟩ := hrel
        by_cases h2 : j < nt
        · obtain ⟨ad2, v, Av, m2, cp2, rfl, hlt2, hv, d0, d1, d2, d3, hy, _⟩ := (HV.out _ HB.out).at_ (j := j) (by omega)
          have HVV := Lib.hid hv
          have hyl := hy.1
          have hm3 : m2 ≤ 9223372036854775807 := by have := hy.2.1; unfold maxLen at this; omega
          have HYL := Lib.hid hyl
          clear hv hy hyl
          by_cases h3 : 300 < m2
          · have HB2 := Lib.hid (fun o : Obj => HB.out.alloc HB.out.size o)
            go_wp2_with fail
            (with_reducible refine (balive_any _ (HA.out _ (HB2.out _)).2.2.2.2.2.1).mono ?_)
            rintro e wz ⟨rfl, hz⟩
            have BZ := Lib.hid ((HA.out _ (HB2.out _)).2.2.2.2.2.2.trans (hz.mono (HA.out _ (HB2.out _)).2.2.2.2.2.2.size))
            clear hz
            go_wp2
            go_ret
            exact ⟨rfl, BZ.out⟩
          · go_wp2
            exact ⟨⟨j + 1, by omega, by go_num, Lib.hid (fun x y hx hyy => by
              by_cases e : x = j
              · subst e; rw [HVV.out] at hyy; injection hyy with hyy; subst hyy; rw [HYL.out]; omega
              · exact HO.out x y (by omega) hyy), HB.out.alloc HB.out.size _⟩, by simp [intOf]; omega⟩
        · obtain rfl : j = nt := by omega
          go_wp2
          exact ⟨⟨k + 1, by omega, by go_num, Lib.hid (fun x y hx hyy => by
            by_cases e : x = k
            · subst e
              rw [HTT.out] at hyy
              injection hyy with hyy
              subst hyy
              intro v hv
              obtain ⟨i, hi, e⟩ := List.mem_iff_getElem.1 hv
              exact HO.out i v (by have := HL.out; omega) (by rw [List.getElem?_eq_getElem hi, e])
            · exact HS.out x y (by omega) hyy), HB⟩, by simp [intOf]; omega⟩
    · obtain rfl : k = 3 := by omega
      have HLA := Lib.hid (show ∀ v ∈ a, VB v ∧ v.l.length ≤ 1000000 from fun v hv => ⟨HVB.out.1 v hv, by have := HS.out 0 a (by decide) rfl v hv; omega⟩)
      have HLB := Lib.hid (show ∀ v ∈ b, VB v ∧ v.l.length ≤ 1000000 from fun v hv => ⟨HVB.out.2.1 v hv, by have := HS.out 1 b (by decide) rfl v hv; omega⟩)
      have HLD := Lib.hid (show ∀ v ∈ d, VB v ∧ v.l.length ≤ 1000000 from fun v hv => ⟨HVB.out.2.2 v hv, by have := HS.out 2 d (by decide) rfl v hv; omega⟩)
      clear HS hk hk3
      obtain ⟨sx, hsx⟩ : ∃ s, ofS fs a = s := ⟨_, rfl⟩
      obtain ⟨ex, hex⟩ : ∃ s, ofE fs a = s := ⟨_, rfl⟩
      obtain ⟨sp, hsp⟩ : ∃ s, btwS fs a b = s := ⟨_, rfl⟩
      obtain ⟨ep, hep⟩ : ∃ s, btwE fs a b = s := ⟨_, rfl⟩
      have HX := Lib.hid (And.intro hsx (And.intro hex (And.intro hsp hep)))
      clear hsx hex hsp hep
      have KP := Lib.hid (show ∀ w', Below W.heap.size W w' → w'.cell? ⟨w.heap.size, 0, none⟩ = some (.slice A0 n0 c0) ∧ w'.cell? ⟨w.heap.size, 1, none⟩ = some (.slice A1 n1 c1) ∧ w'.cell? ⟨w.heap.size, 2, none⟩ = some (.slice A2 n2 c2) from fun Z h => ⟨(HA.out _ h).1.t0, (HA.out _ h).1.t1, (HA.out _ h).1.t2⟩)
      generalize hwr : wr = w1 at *
      clear hwr
      have B1x := HB.out
      have x0 := (HA.out _ B1x).1.t0
      have x1 := (HA.out _ B1x).1.t1
      have x2 := (HA.out _ B1x).1.t2
      go_upto_region 13 with fail
      go_cut [9, 10] (fun s9 s10 wc => s10 = .int .i64 ex ∧ ∃ g M1 g1 i1 M2 g2 i2, s9 = .pointer (some ⟨g, 0, none⟩) ∧ Hid (Three wc g (.slice M1 g1 i1) (.slice M2 g2 i2) (.bool sx.o)) ∧ Hid (Byt wc wc.heap.size M1 g1 sx.f) ∧ Hid (Byt wc wc.heap.size M2 g2 sx.t) ∧ Hid (Below w1.heap.size w1 wc))
      case first =>
        go_region_held3 (fun w' => w'.cell? ⟨w.heap.size, 0, none⟩ = some (.slice A0 n0 c0) ∧ w'.cell? ⟨w.heap.size, 1, none⟩ = some (.slice A1 n1 c1) ∧ w'.cell? ⟨w.heap.size, 2, none⟩ = some (.slice A2 n2 c2))
          (first
          | exact KP.out _ (B1x.on (below_set3 hc3 hg _ _ _))
          | exact KP.out _ (B1x.on (hc3.alloc hc3.size _))
          | exact KP.out _ (B1x.on hc3)
          | exact KP.out _ (B1x.on (hc3.alloc hc3.size _))
          | exact KP.out _ (B1x.on hc2)
          | exact KP.out _ (B1x.on (hc2.alloc hc2.size _))
          | exact KP.out _ (B1x.on hc1)
          | exact KP.out _ (B1x.on (hc1.alloc hc1.size _))
          | exact KP.out _ (B1x.on ((Below.refl w1.heap.size w1).alloc (Below.refl w1.heap.size w1).size _).drew)
          | exact KP.out _ (B1x.on (Below.refl w1.heap.size w1).drew)
          | exact KP.out _ (B1x.on (Below.refl w1.heap.size w1))
          | exact KP.out _ (B1x.on ((Below.refl w1.heap.size w1).alloc (Below.refl w1.heap.size w1).size _)))
          (first
          | (go_at_call 22; (with_reducible refine (fields_any A n c w.heap.size fs (w1.alloc (.cells #[.slice none 0 0, .slice none 0 0, .bool false] 28)).drew (HA.out _ (B1x.on (((Below.refl w1.heap.size w1).alloc (Below.refl w1.heap.size w1).size (.cells #[.slice none 0 0, .slice none 0 0, .bool false] 28)).drew))).2.1 (HA.out _ (B1x.on (((Below.refl w1.heap.size w1).alloc (Below.refl w1.heap.size w1).size (.cells #[.slice none 0 0, .slice none 0 0, .bool false] 28)).drew))).2.2.2.2.2.2.size (by omega)).mono ?_); rintro e v1 ⟨Af, nf, cf, rfl, ff, ncf, q1⟩; have hc1 : Below w1.heap.size w1 v1 := (((Below.refl w1.heap.size w1).alloc (Below.refl w1.heap.size w1).size (.cells #[.slice none 0 0, .slice none 0 0, .bool false] 28)).drew).on q1; have hs1 : Below w1.heap.size w1 v1 := (((Below.refl w1.heap.size w1).alloc (Below.refl w1.heap.size w1).size (.cells #[.slice none 0 0, .slice none 0 0, .bool false] 28)).drew).on q1; have hz1 : Three v1 w1.heap.size (.slice none 0 0) (.slice none 0 0) (.bool false) := ((Three.new w1 28 (.slice none 0 0) (.slice none 0 0) (.bool false)).drew_).below q1 ((Three.new w1 28 (.slice none 0 0) (.slice none 0 0) (.bool false)).drew_).lt; have hg := (Below.refl w1.heap.size w1).size)
          | (go_at_call 22; (with_reducible refine (fields_any A n c w.heap.size fs w1.drew (HA.out _ (B1x.on ((Below.refl w1.heap.size w1).drew))).2.1 (HA.out _ (B1x.on ((Below.refl w1.heap.size w1).drew))).2.2.2.2.2.2.size (by omega)).mono ?_); rintro e v1 ⟨Af, nf, cf, rfl, ff, ncf, q1⟩; have hc1 : Below w1.heap.size w1 v1 := ((Below.refl w1.heap.size w1).drew).on q1; have hs1 : Below w1.heap.size w1 v1 := ((Below.refl w1.heap.size w1).drew).on q1)
          | (go_at_call 23; (with_reducible refine (values_any A0 n0 c0 w.heap.size a (v1.alloc (.cells #[.slice none 0 0, .slice none 0 0, .bool false] 28)) (HA.out _ (B1x.on ((hc1.alloc hc1.size (.cells #[.slice none 0 0, .slice none 0 0, .bool false] 28))))).2.2.1 (HA.out _ (B1x.on ((hc1.alloc hc1.size (.cells #[.slice none 0 0, .slice none 0 0, .bool false] 28))))).2.2.2.2.2.2.size (by omega)).mono ?_); rintro e v2 ⟨Av, nv, cv, rfl, fv, ncv, q2⟩; have hc2 : Below w1.heap.size w1 v2 := ((hc1.alloc hc1.size (.cells #[.slice none 0 0, .slice none 0 0, .bool false] 28))).on q2; have hs2 : Below v1.heap.size v1 v2 := (((Below.refl v1.heap.size v1).alloc (Below.refl v1.heap.size v1).size (.cells #[.slice none 0 0, .slice none 0 0, .bool false] 28))).on q2; have hz2 : Three v2 v1.heap.size (.slice none 0 0) (.slice none 0 0) (.bool false) := ((Three.new v1 28 (.slice none 0 0) (.slice none 0 0) (.bool false))).below q2 ((Three.new v1 28 (.slice none 0 0) (.slice none 0 0) (.bool false))).lt; have hg := hc1.size)
          | (go_at_call 23; (with_reducible refine (values_any A0 n0 c0 w.heap.size a v1 (HA.out _ (B1x.on hc1)).2.2.1 (HA.out _ (B1x.on hc1)).2.2.2.2.2.2.size (by omega)).mono ?_); rintro e v2 ⟨Av, nv, cv, rfl, fv, ncv, q2⟩; have hc2 : Below w1.heap.size w1 v2 := hc1.on q2; have hs2 : Below v1.heap.size v1 v2 := (Below.refl v1.heap.size v1).on q2; have hz2 := hz1.below q2 hz1.lt)
          | (go_at_call 23; (with_reducible refine (values_any A0 n0 c0 w.heap.size a v1 (HA.out _ (B1x.on (hc1))).2.2.1 (HA.out _ (B1x.on (hc1))).2.2.2.2.2.2.size (by omega)).mono ?_); rintro e v2 ⟨Av, nv, cv, rfl, fv, ncv, q2⟩; have hc2 : Below w1.heap.size w1 v2 := (hc1).on q2; have hs2 : Below v1.heap.size v1 v2 := ((Below.refl v1.heap.size v1)).on q2)
          | (go_at_call 21; (with_reducible refine (of_c Af Av nf cf nv cv (v2.alloc (.cells #[.slice none 0 0, .slice none 0 0, .bool false] 28)).heap.size fs a sx ex (v2.alloc (.cells #[.slice none 0 0, .slice none 0 0, .bool false] 28)) (HA.out _ (B1x.on ((hc2.alloc hc2.size (.cells #[.slice none 0 0, .slice none 0 0, .bool false] 28))))).2.2.2.2.2.1 ((((ff.below hs2).more hs2.size).below (((Below.refl v2.heap.size v2).alloc (Below.refl v2.heap.size v2).size (.cells #[.slice none 0 0, .slice none 0 0, .bool false] 28)))).more (((Below.refl v2.heap.size v2).alloc (Below.refl v2.heap.size v2).size (.cells #[.slice none 0 0, .slice none 0 0, .bool false] 28))).size) ncf ((fv.below (((Below.refl v2.heap.size v2).alloc (Below.refl v2.heap.size v2).size (.cells #[.slice none 0 0, .slice none 0 0, .bool false] 28)))).more (((Below.refl v2.heap.size v2).alloc (Below.refl v2.heap.size v2).size (.cells #[.slice none 0 0, .slice none 0 0, .bool false] 28))).size) (Nat.le_refl _) HLA.out HX.out.1 HX.out.2.1).mono ?_); rintro e v3 ⟨M1, g1, i1, M2, g2, i2, rfl, ma1, ma2, q3⟩; have hc3 : Below w1.heap.size w1 v3 := ((hc2.alloc hc2.size (.cells #[.slice none 0 0, .slice none 0 0, .bool false] 28))).on q3; have hs3 : Below v2.heap.size v2 v3 := (((Below.refl v2.heap.size v2).alloc (Below.refl v2.heap.size v2).size (.cells #[.slice none 0 0, .slice none 0 0, .bool false] 28))).on q3; have hz3 : Three v3 v2.heap.size (.slice none 0 0) (.slice none 0 0) (.bool false) := ((Three.new v2 28 (.slice none 0 0) (.slice none 0 0) (.bool false))).below q3 ((Three.new v2 28 (.slice none 0 0) (.slice none 0 0) (.bool false))).lt; have hg := hc2.size; have r0 := hz3.t0; have r1 := hz3.t1; have r2 := hz3.t2; have s0 := hz3.fz 0; have s1 := hz3.fz 1; have s2 := hz3.fz 2)
          | (go_at_call 21; (with_reducible refine (of_c Af Av nf cf nv cv v2.heap.size fs a sx ex v2 (HA.out _ (B1x.on hc2)).2.2.2.2.2.1 ((((ff.below hs2).more hs2.size).below (Below.refl v2.heap.size v2)).more (Below.refl v2.heap.size v2).size) ncf ((fv.below (Below.refl v2.heap.size v2)).more (Below.refl v2.heap.size v2).size) (Nat.le_refl _) HLA.out HX.out.1 HX.out.2.1).mono ?_); rintro e v3 ⟨M1, g1, i1, M2, g2, i2, rfl, ma1, ma2, q3⟩; have hc3 : Below w1.heap.size w1 v3 := hc2.on q3; have hs3 : Below v2.heap.size v2 v3 := (Below.refl v2.heap.size v2).on q3; have hz3 := hz2.below q3 hz2.lt; have r0 := hz3.t0; have r1 := hz3.t1; have r2 := hz3.t2; have s0 := hz3.fz 0; have s1 := hz3.fz 1; have s2 := hz3.fz 2)
          | (go_at_call 21; (with_reducible refine (of_c Af Av nf cf nv cv v2.heap.size fs a sx ex v2 (HA.out _ (B1x.on (hc2))).2.2.2.2.2.1 ((((ff.below hs2).more hs2.size).below ((Below.refl v2.heap.size v2))).more ((Below.refl v2.heap.size v2)).size) ncf ((fv.below ((Below.refl v2.heap.size v2))).more ((Below.refl v2.heap.size v2)).size) (Nat.le_refl _) HLA.out HX.out.1 HX.out.2.1).mono ?_); rintro e v3 ⟨M1, g1, i1, M2, g2, i2, rfl, ma1, ma2, q3⟩; have hc3 : Below w1.heap.size w1 v3 := (hc2).on q3; have hs3 : Below v2.heap.size v2 v3 := ((Below.refl v2.heap.size v2)).on q3))
        all_goals
          go_wp2_with fail
          go_meet
          first
          | exact ⟨rfl, _, M1, g1, i1, M2, g2, i2, rfl, Lib.hid (hz3.set3 _ _ _), Lib.hid (by rw [size_set3]; exact hz3.keep3 ma1 _ _ _), Lib.hid (by rw [size_set3]; exact hz3.keep3 ma2 _ _ _), Lib.hid (below_set3 hc3 hg _ _ _)⟩
          | exact ⟨rfl, _, M1, g1, i1, M2, g2, i2, rfl, Lib.hid (Three.new _ _ _ _ _), Lib.hid ((ma1.alloc (Nat.le_refl _) _).more (by simp)), Lib.hid ((ma2.alloc (Nat.le_refl _) _).more (by simp)), Lib.hid (hc3.alloc hc3.size _)⟩
      case rest =>
      obtain ⟨rfl, gx, M1, j1, i1, M2, j2, i2, rfl, TX, YX, ZX, B2⟩ := hcut
      have B2x := B1x.on B2.out
      clear x0 x1 x2 B1x
      generalize hw2 : wc = w2 at *
      clear hw2
      have x0 := (HA.out _ B2x).1.t0
      have x1 := (HA.out _ B2x).1.t1
      have x2 := (HA.out _ B2x).1.t2
      go_wp2_with fail
      (with_reducible refine (rof_c A A0 n c n0 c0 w.heap.size fs a sx ex w2 (HA.out _ B2x).2.1 hac (HA.out _ B2x).2.2.1 (HA.out _ B2x).2.2.2.2.2.2.size HLA.out HX.out.1 HX.out.2.1).mono ?_)
      rintro e v1 ⟨N1, j3, i3, N2, j4, i4, rfl, y1, y2, q1⟩
      generalize hw3 : v1.alloc (.cells #[.slice N1 j3 i3, .slice N2 j4 i4, .bool sx.o] 24) = w3
      have HY := Lib.hid (show ∀ V, Below w3.heap.size w3 V → (Three V gx (.slice M1 j1 i1) (.slice M2 j2 i2) (.bool sx.o) ∧ Three V v1.heap.size (.slice N1 j3 i3) (.slice N2 j4 i4) (.bool sx.o)) ∧ (Byt V w3.heap.size M1 j1 sx.f ∧ Byt V w3.heap.size M2 j2 sx.t) ∧ (Byt V w3.heap.size N1 j3 sx.f ∧ Byt V w3.heap.size N2 j4 sx.t) ∧ Below W.heap.size W V from fun V h => by
        have hs : Below w2.heap.size w2 w3 := by subst hw3; exact q1.alloc q1.size _
        have ht := TX.out.below hs TX.out.lt
        have hn : Three w3 v1.heap.size (.slice N1 j3 i3) (.slice N2 j4 i4) (.bool sx.o) := by subst hw3; exact Three.new _ _ _ _ _
        have al : ∀ {A n l}, Byt v1 v1.heap.size A n l → Byt w3 w3.heap.size A n l := fun {A n l} k => by subst hw3; exact (k.alloc (Nat.le_refl _) _).more (by simp)
        exact ⟨⟨ht.below h ht.lt, hn.below h hn.lt⟩, ⟨((YX.out.below hs).more hs.size).below h, ((ZX.out.below hs).more hs.size).below h⟩, ⟨(al y1).below h, (al y2).below h⟩, (B2x.on hs).on h⟩)
      have C1 := Lib.hid (Below.refl w3.heap.size w3)
      have B3x := (HY.out _ C1.out).2.2.2
      clear y1 y2 q1 x0 x1 x2
      have x0 := (HA.out _ B3x).1.t0
      have x1 := (HA.out _ B3x).1.t1
      have x2 := (HA.out _ B3x).1.t2
      go_upto_region 15 with fail
      go_cut [13, 14] (fun s13 s14 wc => s14 = .int .i64 ep ∧ ∃ g M1 g1 i1 M2 g2 i2, s13 = .pointer (some ⟨g, 0, none⟩) ∧ Hid (Three wc g (.slice M1 g1 i1) (.slice M2 g2 i2) (.bool sp.o)) ∧ Hid (Byt wc wc.heap.size M1 g1 sp.f) ∧ Hid (Byt wc wc.heap.size M2 g2 sp.t) ∧ Hid (Below w3.heap.size w3 wc))
      case first =>
        clear hw3
        go_region_held3 (fun w' => w'.cell? ⟨w.heap.size, 0, none⟩ = some (.slice A0 n0 c0) ∧ w'.cell? ⟨w.heap.size, 1, none⟩ = some (.slice A1 n1 c1) ∧ w'.cell? ⟨w.heap.size, 2, none⟩ = some (.slice A2 n2 c2))
          (first
          | exact KP.out _ (B3x.on (below_set3 hc4 hg _ _ _))
          | exact KP.out _ (B3x.on (hc4.alloc hc4.size _))
          | exact KP.out _ (B3x.on hc4)
          | exact KP.out _ (B3x.on (hc4.alloc hc4.size _))
          | exact KP.out _ (B3x.on hc3)
          | exact KP.out _ (B3x.on (hc3.alloc hc3.size _))
          | exact KP.out _ (B3x.on hc2)
          | exact KP.out _ (B3x.on (hc2.alloc hc2.size _))
          | exact KP.out _ (B3x.on hc1)
          | exact KP.out _ (B3x.on (hc1.alloc hc1.size _))
          | exact KP.out _ (B3x.on ((Below.refl w3.heap.size w3).alloc (Below.refl w3.heap.size w3).size _).drew)
          | exact KP.out _ (B3x.on (Below.refl w3.heap.size w3).drew)
          | exact KP.out _ (B3x.on (Below.refl w3.heap.size w3))
          | exact KP.out _ (B3x.on ((Below.refl w3.heap.size w3).alloc (Below.refl w3.heap.size w3).size _)))
          (first
          | (go_at_call 22; (with_reducible refine (fields_any A n c w.heap.size fs (w3.alloc (.cells #[.slice none 0 0, .slice none 0 0, .bool false] 28)).drew (HA.out _ (B3x.on (((Below.refl w3.heap.size w3).alloc (Below.refl w3.heap.size w3).size (.cells #[.slice none 0 0, .slice none 0 0, .bool false] 28)).drew))).2.1 (HA.out _ (B3x.on (((Below.refl w3.heap.size w3).alloc (Below.refl w3.heap.size w3).size (.cells #[.slice none 0 0, .slice none 0 0, .bool false] 28)).drew))).2.2.2.2.2.2.size (by omega)).mono ?_); rintro e v1 ⟨Af, nf, cf, rfl, ff, ncf, q1⟩; have hc1 : Below w3.heap.size w3 v1 := (((Below.refl w3.heap.size w3).alloc (Below.refl w3.heap.size w3).size (.cells #[.slice none 0 0, .slice none 0 0, .bool false] 28)).drew).on q1; have hs1 : Below w3.heap.size w3 v1 := (((Below.refl w3.heap.size w3).alloc (Below.refl w3.heap.size w3).size (.cells #[.slice none 0 0, .slice none 0 0, .bool false] 28)).drew).on q1; have hz1 : Three v1 w3.heap.size (.slice none 0 0) (.slice none 0 0) (.bool false) := ((Three.new w3 28 (.slice none 0 0) (.slice none 0 0) (.bool false)).drew_).below q1 ((Three.new w3 28 (.slice none 0 0) (.slice none 0 0) (.bool false)).drew_).lt; have hg := (Below.refl w3.heap.size w3).size)
          | (go_at_call 22; (with_reducible refine (fields_any A n c w.heap.size fs w3.drew (HA.out _ (B3x.on ((Below.refl w3.heap.size w3).drew))).2.1 (HA.out _ (B3x.on ((Below.refl w3.heap.size w3).drew))).2.2.2.2.2.2.size (by omega)).mono ?_); rintro e v1 ⟨Af, nf, cf, rfl, ff, ncf, q1⟩; have hc1 : Below w3.heap.size w3 v1 := ((Below.refl w3.heap.size w3).drew).on q1; have hs1 : Below w3.heap.size w3 v1 := ((Below.refl w3.heap.size w3).drew).on q1)
          | (go_at_call 23; (with_reducible refine (values_any A0 n0 c0 w.heap.size a (v1.alloc (.cells #[.slice none 0 0, .slice none 0 0, .bool false] 28)) (HA.out _ (B3x.on ((hc1.alloc hc1.size (.cells #[.slice none 0 0, .slice none 0 0, .bool false] 28))))).2.2.1 (HA.out _ (B3x.on ((hc1.alloc hc1.size (.cells #[.slice none 0 0, .slice none 0 0, .bool false] 28))))).2.2.2.2.2.2.size (by omega)).mono ?_); rintro e v2 ⟨Av, nv, cv, rfl, fv, ncv, q2⟩; have hc2 : Below w3.heap.size w3 v2 := ((hc1.alloc hc1.size (.cells #[.slice none 0 0, .slice none 0 0, .bool false] 28))).on q2; have hs2 : Below v1.heap.size v1 v2 := (((Below.refl v1.heap.size v1).alloc (Below.refl v1.heap.size v1).size (.cells #[.slice none 0 0, .slice none 0 0, .bool false] 28))).on q2; have hz2 : Three v2 v1.heap.size (.slice none 0 0) (.slice none 0 0) (.bool false) := ((Three.new v1 28 (.slice none 0 0) (.slice none 0 0) (.bool false))).below q2 ((Three.new v1 28 (.slice none 0 0) (.slice none 0 0) (.bool false))).lt; have hg := hc1.size)
          | (go_at_call 23; (with_reducible refine (values_any A0 n0 c0 w.heap.size a v1 (HA.out _ (B3x.on hc1)).2.2.1 (HA.out _ (B3x.on hc1)).2.2.2.2.2.2.size (by omega)).mono ?_); rintro e v2 ⟨Av, nv, cv, rfl, fv, ncv, q2⟩; have hc2 : Below w3.heap.size w3 v2 := hc1.on q2; have hs2 : Below v1.heap.size v1 v2 := (Below.refl v1.heap.size v1).on q2; have hz2 := hz1.below q2 hz1.lt)
          | (go_at_call 23; (with_reducible refine (values_any A0 n0 c0 w.heap.size a v1 (HA.out _ (B3x.on (hc1))).2.2.1 (HA.out _ (B3x.on (hc1))).2.2.2.2.2.2.size (by omega)).mono ?_); rintro e v2 ⟨Av, nv, cv, rfl, fv, ncv, q2⟩; have hc2 : Below w3.heap.size w3 v2 := (hc1).on q2; have hs2 : Below v1.heap.size v1 v2 := ((Below.refl v1.heap.size v1)).on q2)
          | (go_at_call 23; (with_reducible refine (values_any A1 n1 c1 w.heap.size b (v2.alloc (.cells #[.slice none 0 0, .slice none 0 0, .bool false] 28)) (HA.out _ (B3x.on ((hc2.alloc hc2.size (.cells #[.slice none 0 0, .slice none 0 0, .bool false] 28))))).2.2.2.1 (HA.out _ (B3x.on ((hc2.alloc hc2.size (.cells #[.slice none 0 0, .slice none 0 0, .bool false] 28))))).2.2.2.2.2.2.size (by omega)).mono ?_); rintro e v3 ⟨Aw, nw, cw, rfl, fw, ncw, q3⟩; have hc3 : Below w3.heap.size w3 v3 := ((hc2.alloc hc2.size (.cells #[.slice none 0 0, .slice none 0 0, .bool false] 28))).on q3; have hs3 : Below v2.heap.size v2 v3 := (((Below.refl v2.heap.size v2).alloc (Below.refl v2.heap.size v2).size (.cells #[.slice none 0 0, .slice none 0 0, .bool false] 28))).on q3; have hz3 : Three v3 v2.heap.size (.slice none 0 0) (.slice none 0 0) (.bool false) := ((Three.new v2 28 (.slice none 0 0) (.slice none 0 0) (.bool false))).below q3 ((Three.new v2 28 (.slice none 0 0) (.slice none 0 0) (.bool false))).lt; have hg := hc2.size)
          | (go_at_call 23; (with_reducible refine (values_any A1 n1 c1 w.heap.size b v2 (HA.out _ (B3x.on hc2)).2.2.2.1 (HA.out _ (B3x.on hc2)).2.2.2.2.2.2.size (by omega)).mono ?_); rintro e v3 ⟨Aw, nw, cw, rfl, fw, ncw, q3⟩; have hc3 : Below w3.heap.size w3 v3 := hc2.on q3; have hs3 : Below v2.heap.size v2 v3 := (Below.refl v2.heap.size v2).on q3; have hz3 := hz2.below q3 hz2.lt)
          | (go_at_call 23; (with_reducible refine (values_any A1 n1 c1 w.heap.size b v2 (HA.out _ (B3x.on (hc2))).2.2.2.1 (HA.out _ (B3x.on (hc2))).2.2.2.2.2.2.size (by omega)).mono ?_); rintro e v3 ⟨Aw, nw, cw, rfl, fw, ncw, q3⟩; have hc3 : Below w3.heap.size w3 v3 := (hc2).on q3; have hs3 : Below v2.heap.size v2 v3 := ((Below.refl v2.heap.size v2)).on q3)
          | (go_at_call 25; (with_reducible refine (btw_c Af Av Aw nf cf nv cv nw cw (v3.alloc (.cells #[.slice none 0 0, .slice none 0 0, .bool false] 28)).heap.size fs a b sp ep (v3.alloc (.cells #[.slice none 0 0, .slice none 0 0, .bool false] 28)) (HA.out _ (B3x.on ((hc3.alloc hc3.size (.cells #[.slice none 0 0, .slice none 0 0, .bool false] 28))))).2.2.2.2.2.1 ((((((ff.below hs2).more hs2.size).below hs3).more hs3.size).below (((Below.refl v3.heap.size v3).alloc (Below.refl v3.heap.size v3).size (.cells #[.slice none 0 0, .slice none 0 0, .bool false] 28)))).more (((Below.refl v3.heap.size v3).alloc (Below.refl v3.heap.size v3).size (.cells #[.slice none 0 0, .slice none 0 0, .bool false] 28))).size) ncf ((((fv.below hs3).more hs3.size).below (((Below.refl v3.heap.size v3).alloc (Below.refl v3.heap.size v3).size (.cells #[.slice none 0 0, .slice none 0 0, .bool false] 28)))).more (((Below.refl v3.heap.size v3).alloc (Below.refl v3.heap.size v3).size (.cells #[.slice none 0 0, .slice none 0 0, .bool false] 28))).size) ((fw.below (((Below.refl v3.heap.size v3).alloc (Below.refl v3.heap.size v3).size (.cells #[.slice none 0 0, .slice none 0 0, .bool false] 28)))).more (((Below.refl v3.heap.size v3).alloc (Below.refl v3.heap.size v3).size (.cells #[.slice none 0 0, .slice none 0 0, .bool false] 28))).size) (Nat.le_refl _) HLA.out HLB.out HX.out.2.2.1 HX.out.2.2.2).mono ?_); rintro e v4 ⟨M1, g1, i1, M2, g2, i2, rfl, ma1, ma2, q4⟩; have hc4 : Below w3.heap.size w3 v4 := ((hc3.alloc hc3.size (.cells #[.slice none 0 0, .slice none 0 0, .bool false] 28))).on q4; have hs4 : Below v3.heap.size v3 v4 := (((Below.refl v3.heap.size v3).alloc (Below.refl v3.heap.size v3).size (.cells #[.slice none 0 0, .slice none 0 0, .bool false] 28))).on q4; have hz4 : Three v4 v3.heap.size (.slice none 0 0) (.slice none 0 0) (.bool false) := ((Three.new v3 28 (.slice none 0 0) (.slice none 0 0) (.bool false))).below q4 ((Three.new v3 28 (.slice none 0 0) (.slice none 0 0) (.bool false))).lt; have hg := hc3.size; have r0 := hz4.t0; have r1 := hz4.t1; have r2 := hz4.t2; have s0 := hz4.fz 0; have s1 := hz4.fz 1; have s2 := hz4.fz 2)
          | (go_at_call 25; (with_reducible refine (btw_c Af Av Aw nf cf nv cv nw cw v3.heap.size fs a b sp ep v3 (HA.out _ (B3x.on hc3)).2.2.2.2.2.1 ((((((ff.below hs2).more hs2.size).below hs3).more hs3.size).below (Below.refl v3.heap.size v3)).more (Below.refl v3.heap.size v3).size) ncf ((((fv.below hs3).more hs3.size).below (Below.refl v3.heap.size v3)).more (Below.refl v3.heap.size v3).size) ((fw.below (Below.refl v3.heap.size v3)).more (Below.refl v3.heap.size v3).size) (Nat.le_refl _) HLA.out HLB.out HX.out.2.2.1 HX.out.2.2.2).mono ?_); rintro e v4 ⟨M1, g1, i1, M2, g2, i2, rfl, ma1, ma2, q4⟩; have hc4 : Below w3.heap.size w3 v4 := hc3.on q4; have hs4 : Below v3.heap.size v3 v4 := (Below.refl v3.heap.size v3).on q4; have hz4 := hz3.below q4 hz3.lt; have r0 := hz4.t0; have r1 := hz4.t1; have r2 := hz4.t2; have s0 := hz4.fz 0; have s1 := hz4.fz 1; have s2 := hz4.fz 2)
          | (go_at_call 25; (with_reducible refine (btw_c Af Av Aw nf cf nv cv nw cw v3.heap.size fs a b sp ep v3 (HA.out _ (B3x.on (hc3))).2.2.2.2.2.1 ((((((ff.below hs2).more hs2.size).below hs3).more hs3.size).below ((Below.refl v3.heap.size v3))).more ((Below.refl v3.heap.size v3)).size) ncf ((((fv.below hs3).more hs3.size).below ((Below.refl v3.heap.size v3))).more ((Below.refl v3.heap.size v3)).size) ((fw.below ((Below.refl v3.heap.size v3))).more ((Below.refl v3.heap.size v3)).size) (Nat.le_refl _) HLA.out HLB.out HX.out.2.2.1 HX.out.2.2.2).mono ?_); rintro e v4 ⟨M1, g1, i1, M2, g2, i2, rfl, ma1, ma2, q4⟩; have hc4 : Below w3.heap.size w3 v4 := (hc3).on q4; have hs4 : Below v3.heap.size v3 v4 := ((Below.refl v3.heap.size v3)).on q4))
        all_goals
          go_wp2_with fail
          go_meet
          first
          | exact ⟨rfl, _, M1, g1, i1, M2, g2, i2, rfl, Lib.hid (hz4.set3 _ _ _), Lib.hid (by rw [size_set3]; exact hz4.keep3 ma1 _ _ _), Lib.hid (by rw [size_set3]; exact hz4.keep3 ma2 _ _ _), Lib.hid (below_set3 hc4 hg _ _ _)⟩
          | exact ⟨rfl, _, M1, g1, i1, M2, g2, i2, rfl, Lib.hid (Three.new _ _ _ _ _), Lib.hid ((ma1.alloc (Nat.le_refl _) _).more (by simp)), Lib.hid ((ma2.alloc (Nat.le_refl _) _).more (by simp)), Lib.hid (hc4.alloc hc4.size _)⟩
      case rest =>
      obtain ⟨rfl, gp, P1, j5, i5, P2, j6, i6, rfl, TP, YP, ZP, B4⟩ := hcut
      have B4x := B3x.on B4.out
      clear x0 x1 x2 B3x hw3
      generalize hw4 : wc = w4 at *
      clear hw4
      have x0 := (HA.out _ B4x).1.t0
      have x1 := (HA.out _ B4x).1.t1
      have x2 := (HA.out _ B4x).1.t2
      go_wp2_with fail
      (with_reducible refine (rbtw_c A A0 A1 n c n0 c0 n1 c1 w.heap.size fs a b sp ep w4 (HA.out _ B4x).2.1 hac (HA.out _ B4x).2.2.1 (HA.out _ B4x).2.2.2.1 (HA.out _ B4x).2.2.2.2.2.2.size HLA.out HLB.out HX.out.2.2.1 HX.out.2.2.2).mono ?_)
      rintro e v2 ⟨Q1, j7, i7, Q2, j8, i8, rfl, y1, y2, q1⟩
      generalize hw5 : v2.alloc (.cells #[.slice Q1 j7 i7, .slice Q2 j8 i8, .bool sp.o] 24) = w5
      have HZ := Lib.hid (show ∀ V, Below w5.heap.size w5 V → (Three V gp (.slice P1 j5 i5) (.slice P2 j6 i6) (.bool sp.o) ∧ Three V v2.heap.size (.slice Q1 j7 i7) (.slice Q2 j8 i8) (.bool sp.o)) ∧ (Byt V w5.heap.size P1 j5 sp.f ∧ Byt V w5.heap.size P2 j6 sp.t) ∧ (Byt V w5.heap.size Q1 j7 sp.f ∧ Byt V w5.heap.size Q2 j8 sp.t) ∧ Below w3.heap.size w3 V from fun V h => by
        have hs : Below w4.heap.size w4 w5 := by subst hw5; exact q1.alloc q1.size _
        have ht := TP.out.below hs TP.out.lt
        have hn : Three w5 v2.heap.size (.slice Q1 j7 i7) (.slice Q2 j8 i8) (.bool sp.o) := by subst hw5; exact Three.new _ _ _ _ _
        have al : ∀ {A n l}, Byt v2 v2.heap.size A n l → Byt w5 w5.heap.size A n l := fun {A n l} k => by subst hw5; exact (k.alloc (Nat.le_refl _) _).more (by simp)
        exact ⟨⟨ht.below h ht.lt, hn.below h hn.lt⟩, ⟨((YP.out.below hs).more hs.size).below h, ((ZP.out.below hs).more hs.size).below h⟩, ⟨(al y1).below h, (al y2).below h⟩, (B4.out.on hs).on h⟩)
      clear y1 y2 q1 x0 x1 x2 B4x
      have C5 := Lib.hid (Below.refl w5.heap.size w5)
      have D5 := Lib.hid (HZ.out _ C5.out).2.2.2
      have t0 := (HY.out _ D5.out).1.1.t0
      have t1 := (HY.out _ D5.out).1.1.t1
      have t2 := (HY.out _ D5.out).1.1.t2
      have u0 := (HY.out _ D5.out).1.2.t0
      have u1 := (HY.out _ D5.out).1.2.t1
      have u2 := (HY.out _ D5.out).1.2.t2
      go_wp2_with fail
      clear hw5
      (with_reducible refine (lsame_any M1 M2 N1 N2 j1 i1 j2 i2 j3 i3 j4 i4 w3.heap.size sx w5 (HY.out _ D5.out).2.1.1 (HY.out _ D5.out).2.1.2 (HY.out _ D5.out).2.2.1.1 (HY.out _ D5.out).2.2.1.2 D5.out.size).mono ?_)
      rintro e v3 ⟨rfl, q3⟩
      have C6 := Lib.hid (C5.out.on q3)
      clear q3 t0 t1 t2 u0 u1 u2
      have t0 := (HZ.out _ C6.out).1.1.t0
      have t1 := (HZ.out _ C6.out).1.1.t1
      have t2 := (HZ.out _ C6.out).1.1.t2
      have u0 := (HZ.out _ C6.out).1.2.t0
      have u1 := (HZ.out _ C6.out).1.2.t1
      have u2 := (HZ.out _ C6.out).1.2.t2
      go_wp2_with fail
      (with_reducible refine (lsame_any P1 P2 Q1 Q2 j5 i5 j6 i6 j7 i7 j8 i8 w5.heap.size sp v3 (HZ.out _ C6.out).2.1.1 (HZ.out _ C6.out).2.1.2 (HZ.out _ C6.out).2.2.1.1 (HZ.out _ C6.out).2.2.1.2 C6.out.size).mono ?_)
      rintro e w6 ⟨rfl, q3⟩
      have D6 := Lib.hid (HZ.out _ (C6.out.on q3)).2.2.2
      clear q3 t0 t1 t2 u0 u1 u2 C6 C5 HZ TP YP ZP B4
      have B6 := Lib.hid (HY.out _ D6.out).2.2.2
      have x0 := (HA.out _ B6.out).1.t0
      have x1 := (HA.out _ B6.out).1.t1
      have x2 := (HA.out _ B6.out).1.t2
      obtain ⟨eb, heb⟩ : ∃ s, putsE fs d = s := ⟨_, rfl⟩
      have HEB := Lib.hid heb
      clear heb
      go_wp2_with fail
      (with_reducible refine (rtput_c A A2 n c n2 c2 w.heap.size fs d eb w6 (HA.out _ B6.out).2.1 (HA.out _ B6.out).2.2.2.2.1 (HA.out _ B6.out).2.2.2.2.2.2.size HLD.out HEB.out).mono ?_)
      rintro e w7 ⟨Ab, nb, cb, rfl, yb, ncb, q7⟩
      have D7 := Lib.hid (D6.out.on q7)
      have B7 := Lib.hid (HY.out _ D7.out).2.2.2
      have YB := Lib.hid yb
      clear q7 yb x0 x1 x2
      by_cases hex : ex = 0
      · by_cases heb : eb = 0
        · subst hex heb
          have HOF := Lib.hid (of_has HX.out.2.1 HEB.out)
          have hle : n0 ≤ n := by
            rcases Nat.lt_or_ge n n0 with q | q
            · have := (of_many (fs := fs) (vs := a) (by rw [HN.out.1, HN.out.2.1]; exact q)).1
              rw [HX.out.2.1] at this
              cases this
            · exact q
          have hle2 : n = n2 := by
            have := (putsE_zero HEB.out).2.1
            rw [HN.out.1, HN.out.2.2.2] at this
            exact this
          have hi1 : (n0 : Int) ≤ (c : Int) := by omega
          have hi2 : (n0 : Int) ≤ (c2 : Int) := by omega
          have hi3 : (0 : Int) ≤ (n0 : Int) := by omega
          have KQ := Lib.hid (show ∀ w', Below w7.heap.size w7 w' → (w'.cell? ⟨w.heap.size, 0, none⟩ = some (.slice A0 n0 c0) ∧ w'.cell? ⟨w.heap.size, 1, none⟩ = some (.slice A1 n1 c1) ∧ w'.cell? ⟨w.heap.size, 2, none⟩ = some (.slice A2 n2 c2)) ∧ w'.cell? ⟨gx, 0, none⟩ = some (.slice M1 j1 i1) ∧ w'.cell? ⟨gx, 1, none⟩ = some (.slice M2 j2 i2) ∧ w'.cell? ⟨gx, 2, none⟩ = some (.bool sx.o) from fun Z h => ⟨KP.out _ (HY.out _ (D7.out.on h)).2.2.2, (HY.out _ (D7.out.on h)).1.1.t0, (HY.out _ (D7.out.on h)).1.1.t1, (HY.out _ (D7.out.on h)).1.1.t2⟩)
          have hb0 := Below.refl w7.heap.size w7
          obtain ⟨X, hX⟩ : ∃ x, cmpT (fs.take n0) a (d.take n0) = x := ⟨_, rfl⟩
          obtain ⟨hx, hhx⟩ : ∃ x, hasS sx (putsL fs d) = x := ⟨_, rfl⟩
          have HXX := Lib.hid (And.intro hX hhx)
          have HXE := Lib.hid (show hx = decide (X = 0) from by have := HOF.out; rw [HX.out.1, HN.out.2.1, hX, hhx] at this; exact this)
          clear hX hhx HOF
          have x0 := (KP.out _ B7.out).1
          have x1 := (KP.out _ B7.out).2.1
          have x2 := (KP.out _ B7.out).2.2
          have t0 := (HY.out _ D7.out).1.1.t0
          have t1 := (HY.out _ D7.out).1.1.t1
          have t2 := (HY.out _ D7.out).1.1.t2
          go_upto_region 23 with fail
          go_region_held3 (fun w' => (w'.cell? ⟨w.heap.size, 0, none⟩ = some (.slice A0 n0 c0) ∧ w'.cell? ⟨w.heap.size, 1, none⟩ = some (.slice A1 n1 c1) ∧ w'.cell? ⟨w.heap.size, 2, none⟩ = some (.slice A2 n2 c2)) ∧ w'.cell? ⟨gx, 0, none⟩ = some (.slice M1 j1 i1) ∧ w'.cell? ⟨gx, 1, none⟩ = some (.slice M2 j2 i2) ∧ w'.cell? ⟨gx, 2, none⟩ = some (.bool sx.o))
            (first
            | exact KQ.out _ hb3
            | exact KQ.out _ hb2
            | exact KQ.out _ hb1
            | exact KQ.out _ hb0.drew
            | exact KQ.out _ hb0)
            (first
            | (go_at_call 11; (with_reducible refine (bhas_b M1 M2 Ab j1 i1 j2 i2 nb cb w7.drew.heap.size sx.f sx.t (putsL fs d) sx.o hx w7.drew ((HY.out _ (D7.out.on hb0.drew)).2.1.1.more (D7.out.on hb0.drew).size) ((HY.out _ (D7.out.on hb0.drew)).2.1.2.more (D7.out.on hb0.drew).size) (YB.out.drew.more hb0.drew.size) (Nat.le_refl _) HXX.out.2).mono ?_); rintro e v1 ⟨rfl, q1⟩; have hb1 : Below w7.heap.size w7 v1 := hb0.drew.on q1)
            | (go_at_call 28; (with_reducible refine (rtcmp_c A A0 A2 n0 c n0 c0 n0 c2 w.heap.size (fs.take n0) a (d.take n0) X v1 ((HA.out _ (B7.out.on hb1)).2.1.take hle) (HA.out _ (B7.out.on hb1)).2.2.1 ((HA.out _ (B7.out.on hb1)).2.2.2.2.1.take (by omega)) (HA.out _ (B7.out.on hb1)).2.2.2.2.2.2.size HXX.out.1).mono ?_); rintro e v2 ⟨rfl, q2⟩; have hb2 : Below w7.heap.size w7 v2 := hb1.on q2; have hqq : (hx == decide (X = 0)) = true := by rw [HXE.out]; simp)
            | (go_at_call 7; (with_reducible refine (balive_any v2 (HA.out _ (B7.out.on hb2)).2.2.2.2.2.1).mono ?_); rintro e v3 ⟨rfl, q3⟩; have hb3 : Below w7.heap.size w7 v3 := hb2.on q3))
          have BZ := Lib.hid (HA.out _ (B7.out.on hb3)).2.2.2.2.2.2
          clear hb0 hb1 hb2 hb3 q1 q2 q3 x0 x1 x2 t0 t1 t2
          go_wp2
          go_ret
          exact ⟨by simp, BZ.out⟩
        · subst hex
          go_wp2_with fail
          (with_reducible refine (balive_any _ (HA.out _ B7.out).2.2.2.2.2.1).mono ?_)
          rintro e wz ⟨rfl, hz⟩
          have BZ := Lib.hid ((HA.out _ B7.out).2.2.2.2.2.2.trans (hz.mono (HA.out _ B7.out).2.2.2.2.2.2.size))
          clear hz
          go_wp2
          go_ret
          exact ⟨rfl, BZ.out⟩
      · go_wp2_with fail
        (with_reducible refine (balive_any _ (HA.out _ B7.out).2.2.2.2.2.1).mono ?_)
        rintro e wz ⟨rfl, hz⟩
        have BZ := Lib.hid ((HA.out _ B7.out).2.2.2.2.2.2.trans (hz.mono (HA.out _ B7.out).2.2.2.2.2.2.size))
        clear hz
        go_wp2
        go_ret
        exact ⟨rfl, BZ.out⟩
set_option maxRecDepth 100000 in
theorem lifted (os : Os) (started : os.Started) (H : Type) (enc : TypeId × Value → H) :
    ReturnsInHanded {} Tryd.checked os 5 .any (fun w args => (Rows.boundsTuplesSpec.pre enc Tryd.prog Tryd.f5 [] false w args ∧ laidMetH Tryd.prog [("spunyarn/ienc.widths", Rows.laid_spunyarn_ienc_widths)] w) ∧ sizedMet enc Tryd.prog Tryd.f5 (OpenSpec.ofChange Rows.boundsTuplesSpec) false w args) (Rows.boundsTuplesSpec.post enc Tryd.prog Tryd.f5 false true false false) := by
  refine returnsInHanded_of_change_and (C := Tryd.checked) (X := fun w _ => laidMetH Tryd.prog [("spunyarn/ienc.widths", Rows.laid_spunyarn_ienc_widths)] w) (fun _ _ _ hh h => h.of_heap hh) own started (by kernel_rfl) Tryd.func5
    (ChangeSpec.witness_shaped (enc := enc) (C := Tryd.checked) (os := os) (X := fun w _ => laidMetH Tryd.prog [("spunyarn/ienc.widths", Rows.laid_spunyarn_ienc_widths)] w) false (World.doorLaid Tryd.prog 400 os) #[.slice none 0 0, .agg #[.slice none 0 0, .slice none 0 0, .slice none 0 0]] 8 rfl (World.shaped_of_RefB (by kernel_rfl) (by kernel_rfl)) (by kernel_rfl) (by kernel_rfl) (by kernel_rfl) (door_met os _)) ?_
  intro W base args ds gs before hval0 hW _ _ hL _
  have hval : ∀ (j : Nat) t v, Tryd.f5.params[j]? = some t → args[j]? = some v → Value.okWide Tryd.prog W .any base t v := hval0
  have hW' := hW
  obtain ⟨p, q, hA0, hV, rfl, hfz, hnd⟩ := hW
  have hA : DataW.TrodAll enc Tryd.prog W 0 (fun _ => true) true Tryd.f5.params.toList args.toList ds p := hA0
  rw [Tryd.params5] at hA hval
  obtain ⟨v0, vs0, d0, ds0, p0, q0, hargs, rfl, rfl, h0, r0⟩ := trodAll_cons hA
  obtain ⟨v1, vs1, d1, ds1, p1, q1, rfl, rfl, rfl, h1, r1⟩ := trodAll_cons r0
  obtain ⟨rfl, rfl, rfl⟩ := trodAll_nil r1
  obtain rfl : args = #[v0, v1] := by cases args; simp_all
  obtain ⟨rfl, rfl⟩ := trodVars_none hV
  have k0 := h0
  have lt0 : ∀ x ∈ p0, x.block < W.heap.size := by obtain ⟨m, hm⟩ := k0; exact DataW.trod_lt m _ _ _ hm
  have k1 := h1
  have lt1 : ∀ x ∈ p1, x.block < W.heap.size := by obtain ⟨m, hm⟩ := k1; exact DataW.trod_lt m _ _ _ hm
  obtain ⟨A0, n0, c0, l0, rfl, b0, nc0⟩ := open_fds (hval 0 42 v0 rfl rfl) h0
  obtain ⟨A1, n1, c1, l1, Ax1, nx1, cx1, lx1, Ay1, ny1, cy1, ly1, rfl, b1, bx1, by1⟩ := open_vl3 (hval 1 44 v1 rfl rfl) h1
  clear hA0 hval0
  refine (walk A0 n0 c0 l0 A1 n1 c1 l1 Ax1 nx1 cx1 lx1 Ay1 ny1 cy1 ly1 W (of_laid hL) b0 nc0 b1 bx1 by1).mono fun e W' ⟨he, bel⟩ => ?_
  subst he
  exact ⟨_, rfl, _, _, _, [], _, [], hW', trodAll_mk1 (shut_bool Tryd.underlying4 _), (trodAll_cons_mk (Below.trod laidOut (by kernel_rfl) (of_decide_eq_true (by kernel_rfl)) k0 bel lt0) (trodAll_cons_mk (Below.trod laidOut (by kernel_rfl) (of_decide_eq_true (by kernel_rfl)) k1 bel lt1) trodAll_mk0)), rfl, bel.frame _, fun h => by cases h⟩

set_option maxRecDepth 100000 in
theorem proved : Rows.BoundsTuplesSaid :=
  OpenClaim.holds_of_wide 5 Tryd.f5 rfl rfl rfl rfl rfl rfl rfl ⟨rfl, rfl, rfl, rfl, rfl⟩ rfl rfl rfl rfl rfl (by kernel_rfl) Tryd.func5 (by kernel_rfl)
    (of_decide_eq_true (by kernel_rfl)) (by unfold Func.isWrapper; first | (rw [if_pos (by decide +kernel)]; kernel_rfl) | (rw [if_neg (by decide +kernel)]; exact ⟨rfl, rfl⟩))
    (fun os started H enc _ => lifted os started H enc)
set_option maxRecDepth 100000 in
theorem card_holds : Rows.BoundsTuplesCardSaid :=
  Claim7.holds_tied_plain_at .later [] [.data] true _ false
    proved (fun _ h => by cases h) (by kernel_rfl) (fun _ h => by cases h) boundsTuples_row_tie rfl ⟨rfl, rfl⟩ (by kernel_rfl) rfl
    (fun f fn hf hfn => by
      obtain rfl : f = 5 := Option.some.inj ((show Tryd.prog.funcNamed "spunyarn/spunyarnlaw07.BoundsTuples" = some 5 by kernel_rfl).symm.trans hf) |>.symm
      obtain rfl : fn = Tryd.f5 := (Option.some.inj (Tryd.func5.symm.trans hfn)).symm
      exact ⟨by kernel_rfl, fun j t ht => by
        rw [Tryd.params5] at ht
        have hm : t ∈ [42, 44] := by simpa using Array.mem_of_getElem? ht
        have hall : ([42, 44].all fun u => !Tryd.prog.wantsStandIn u) = true := by kernel_rfl
        exact (show Tryd.prog.wantsStandIn t = false by simpa using List.all_eq_true.1 hall t hm)⟩)
    (by kernel_rfl)
end Go.Proofs.YtofccfbiappgaaaDoor.boundsTuples
