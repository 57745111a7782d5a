/-
  Proved here: what is done with a copy does not change the node, and what is done with the node does not change the copy, whatever its part and its kids; nothing that came in is turned. No condition.
-/
import Derived.Test.YtgelmhldicmmdaaRowReach
import Derived.Test.YtgelmhldicmmdaaNdFroz
import Derived.Test.YtgelmhldicmmdaaKdTwo
import Derived.Deep.CutBlock
import Derived.Deep.DeepCutAuto
namespace Go.Proofs.Ytgelmhldicmmdaa.nodeCopies
open Go.ChangeShapes Go.WideShapes Go.ChangeAt Go.RowKit

/-- What es holds is k, by the bytes of l. -/
def All (es : List Ent) (l : List UInt8) (k : Th) : Prop := (∀ b : UInt8, hasE es b.toNat = true ↔ b ∈ l) ∧ ∀ b : UInt8, b ∈ l → getE es b.toNat = k
/-- What es holds lies among l, but not among the first j of them. -/
def Lft (es : List Ent) (l : List UInt8) (j : Nat) : Prop := ∀ b : UInt8, hasE es b.toNat = true → b ∈ l ∧ b ∉ l.take j
theorem all_none (k : Th) : All [] [] k := ⟨fun b => by simp [hasE, look], fun b q => by simp at q⟩
theorem u8_inj {a b : UInt8} (h : a.toNat = b.toNat) : a = b := UInt8.toNat_inj.1 h
theorem take_snoc {l : List UInt8} {j : Nat} {u : UInt8} (h : l[j]? = some u) : l.take (j + 1) = l.take j ++ [u] := by rw [List.take_add_one, h]; rfl
theorem all_set {es : List Ent} {l : List UInt8} {j : Nat} {u : UInt8} {k : Th} (hu : Up es) (h : All es (l.take j) k) (hj : l[j]? = some u) : All (setE es u k) (l.take (j + 1)) k := by
  rw [take_snoc hj]
  refine ⟨fun b => ?_, fun b q => ?_⟩
  · rw [has_set hu, List.mem_append, List.mem_singleton]
    by_cases e : b.toNat = u.toNat
    · rw [if_pos e]; exact ⟨fun _ => .inr (u8_inj e), fun _ => rfl⟩
    · rw [if_neg e, h.1 b]; exact ⟨fun q => .inl q, fun q => q.elim id (fun q => absurd (by rw [q]) e)⟩
  · rw [get_set hu]
    by_cases e : b.toNat = u.toNat
    · rw [if_pos e]
    · rw [if_neg e]
      rcases List.mem_append.1 q with q | q
      · exact h.2 b q
      · exact absurd (by rw [List.mem_singleton.1 q]) e
theorem lft_drop {es : List Ent} {l : List UInt8} {j : Nat} {u : UInt8} (hu : Up es) (h : Lft es l j) (hj : l[j]? = some u) : Lft (dropE es u) l (j + 1) := by
  intro b hb
  rw [has_drop hu] at hb
  by_cases e : b.toNat = u.toNat
  · rw [if_pos e] at hb; cases hb
  · rw [if_neg e] at hb
    refine ⟨(h b hb).1, fun q => ?_⟩
    rw [take_snoc hj] at q
    rcases List.mem_append.1 q with q | q
    · exact (h b hb).2 q
    · exact e (by rw [List.mem_singleton.1 q])
theorem lft_all {es : List Ent} {l : List UInt8} {m : Nat} (hu : Up es) (h : Lft es l m) (hm : l.length = m) : es = [] := by
  cases es with
  | nil => rfl
  | cons a r =>
    have := (mem_look hu a).1 List.mem_cons_self
    obtain ⟨q1, q2⟩ := h a.1 this.1
    rw [List.take_of_length_le (by omega)] at q2
    exact absurd q1 q2

/-- The node with these kids, its copy, with and without the value; the two leaves. -/
def nA (l1 : List UInt8) (es : List Ent) : Nd := ⟨false, 1, l1, 0, false, es⟩
def nK (l1 : List UInt8) (v : Int) : Nd := ⟨true, 1, l1, v, true, []⟩
def nC (l1 : List UInt8) (es : List Ent) : Nd := ⟨false, 2, l1, 0, false, es⟩
def nD (l1 : List UInt8) (v : Int) (es : List Ent) : Nd := ⟨false, 2, l1, v, true, es⟩

set_option maxRecDepth 100000 in
set_option maxHeartbeats 8000000 in
theorem walk (A0 : Option Addr) (n0 c0 : Nat) (l0 : List UInt8) (A1 : Option Addr) (n1 c1 : Nat) (l1 : List UInt8) (A2 : Option Addr) (n2 c2 : Nat) (l2 : List UInt8) (v : Int) (w : World)
    (h0 : Byt w w.heap.size A0 n0 l0) (hc0 : n0 ≤ c0) (h1 : Byt w w.heap.size A1 n1 l1) (hr1 : n1 ≤ 140737488351232) (h2 : Byt w w.heap.size A2 n2 l2) (hr2 : n2 ≤ 140737488351232) :
    Calls Try.prog 4 #[.slice A0 n0 c0, .agg #[.slice A1 n1 c1, .slice A2 n2 c2], .int .u64 v] w fun e w' => e = .returned (.bool true) ∧ Below w.heap.size w w' := by
  have hmx : n0 ≤ 9223372036854775807 := by have := h0.2.1; unfold maxLen at this; omega
  generalize hWa : w.alloc (.cells #[.slice A1 n1 c1, .slice A2 n2 c2] 45) = W
  have sb : W.heap.size = w.heap.size + 1 := by subst hWa; simp
  have bb : Below w.heap.size w W := by subst hWa; exact (Below.refl _ _).alloc (Nat.le_refl _) _
  have xb : Blk W w.heap.size #[.slice A1 n1 c1, .slice A2 n2 c2] := by subst hWa; exact Blk.new w _ _
  have e1 : W.cell? ⟨w.heap.size, 0, none⟩ = some (.slice A1 n1 c1) := xb.cell 0
  have e2 : W.cell? ⟨w.heap.size, 1, none⟩ = some (.slice A2 n2 c2) := xb.cell 1
  have HX := Lib.hid (show ∀ V, Below W.heap.size W V → Byt V w.heap.size A0 n0 l0 ∧ Byt V w.heap.size A1 n1 l1 ∧ Byt V w.heap.size A2 n2 l2 from
    fun V hV => ⟨(h0.below bb).below (hV.mono bb.size), (h1.below bb).below (hV.mono bb.size), (h2.below bb).below (hV.mono bb.size)⟩)
  have BW := Lib.hid bb
  have LW := Lib.hid bb.size
  clear h0 h1 h2 bb xb sb
  go_enter Try.func4, Try.ntmps4
  go_wp2_with fail
  try rw [hWa]
  go_quiet (fail)
  clear hWa
  have HX := Lib.hid (fun V (hV : Below (W.drewN nq).heap.size (W.drewN nq) V) => HX.out V (((Still.drewN W nq).below _).trans hV))
  have BW := Lib.hid (BW.out.trans ((Still.drewN W nq).below _))
  have LW := Lib.hid (show w.heap.size ≤ (W.drewN nq).heap.size from LW.out)
  obtain ⟨V, hV⟩ : ∃ V, W.drewN nq = V := ⟨_, rfl⟩
  rw [hV] at HX BW LW
  rw [hV]
  clear hV e1 e2
  have N0 := Lib.hid (Ns.none_ V V.heap.size (fun _ => False))
  have B0 := Lib.hid (Below.refl V.heap.size V)
  obtain ⟨_, y1, y2⟩ := HX.out V B0.out
  have C1 := Lib.hid (N0.out.inner_ B0.out.size (fun _ q => q.elim) none 0 1 n1 c1 w.heap.size l1 (mt_none _ _) (fun i e => by cases e) y1 (Nat.le_trans LW.out B0.out.size) (by omega) (fun i _ e => by cases e))
  rw [show mtr none = .pointer none from rfl] at C1
  clear y1 y2
  go_wp2_with fail
  (with_reducible refine C1.out.mono ?_)
  rintro e w1 ⟨g1, rfl, nn, kk, _⟩
  have N1 := Lib.hid (show Ns w1 V.heap.size (fun _ => False) [(g1, nA l1 [])] from nn)
  have B1 := Lib.hid (B0.out.trans (kk.below B0.out.size (fun i e => by cases e)))
  clear nn kk C1
  obtain ⟨_, y1, y2⟩ := HX.out w1 B1.out
  have C2 := Lib.hid (N1.out.leaf_ B1.out.size (fun _ q => q.elim) none 0 1 v n1 c1 w.heap.size l1 (mt_none _ _) (fun i e => by cases e) y1 (Nat.le_trans LW.out B1.out.size) (by omega) (fun i _ e => by cases e))
  rw [show mtr none = .pointer none from rfl] at C2
  clear y1 y2
  go_wp2_with fail
  (with_reducible refine C2.out.mono ?_)
  rintro e w2 ⟨g2, rfl, nn, kk, _⟩
  have N2 := Lib.hid (show Ns w2 V.heap.size (fun _ => False) [(g1, nA l1 []), (g2, nK l1 v)] from nn)
  have B2 := Lib.hid (B1.out.trans (kk.below B1.out.size (fun i e => by cases e)))
  clear nn kk C2
  obtain ⟨_, y1, y2⟩ := HX.out w2 B2.out
  have C3 := Lib.hid (N2.out.leaf_ B2.out.size (fun _ q => q.elim) none 0 1 v n2 c2 w.heap.size l2 (mt_none _ _) (fun i e => by cases e) y2 (Nat.le_trans LW.out B2.out.size) (by omega) (fun i _ e => by cases e))
  rw [show mtr none = .pointer none from rfl] at C3
  clear y1 y2
  go_wp2_with fail
  (with_reducible refine C3.out.mono ?_)
  rintro e w3 ⟨g3, rfl, nn, kk, _⟩
  have N3 := Lib.hid (show Ns w3 V.heap.size (fun _ => False) [(g1, nA l1 []), (g2, nK l1 v), (g3, nK l2 v)] from nn)
  have B3 := Lib.hid (B2.out.trans (kk.below B2.out.size (fun i e => by cases e)))
  clear nn kk C3
  clear N0 N1 N2 B0 B1 B2
  go_upto_region 5 with fail
  go_cut [0] (fun s0 wc => ∃ m : Nat, m ≤ n0 ∧ m ≤ 300 ∧ s0 = .slice A0 m c0 ∧ wc = w3)
  case first =>
    by_cases h60 : n0 ≤ 300
    all_goals
      go_wp2_with fail
      go_meet
    · exact ⟨n0, Nat.le_refl _, h60, rfl, rfl⟩
    · exact ⟨300, by omega, Nat.le_refl _, rfl, rfl⟩
  case rest =>
    obtain ⟨m, hmn, hm3, rfl, hwc⟩ := hcut
    subst hwc
    have HT := Lib.hid (fun U (hU : Below V.heap.size V U) => (HX.out U hU).1.take hmn)
    have HLT := Lib.hid (show (l0.take m).length = m from (HT.out V (Below.refl _ _)).1)
    generalize l0.take m = ls at HT HLT
    clear hmn hmx hc0
    go_wp2_with fail
    go_loopw [53] (fun i wr => ∃ (k : Nat) (es : List Ent), k ≤ m ∧ i = .int .i64 k ∧ Hid (All es (ls.take k) (some ⟨g2, 0, none⟩)) ∧ Hid (Ns wr V.heap.size (fun _ => False) [(g1, nA l1 es), (g2, nK l1 v), (g3, nK l2 v)]) ∧ Hid (Below V.heap.size V wr)) (fun i _ => m - (intOf i).toNat)
    case atStart => exact ⟨0, [], Nat.zero_le _, rfl, Lib.hid (all_none _), N3, B3⟩
    case round =>
      obtain ⟨k, es, hk, rfl, AL, NK, BK⟩ := hrel
      by_cases h1 : k < m
      · obtain ⟨ad, u, rfl, _, hu, hcell⟩ := (HT.out wr BK.out).at_ h1
        have HU := Lib.hid hu
        have C1 := Lib.hid (NK.out.y_setkid (k := 0) (j := 1) rfl rfl BK.out.size (fun _ q => q.elim) (o := 1) rfl rfl u _ rfl)
        clear hu
        go_wp2_with fail
        (with_reducible refine C1.out.mono ?_)
        rintro e w4 ⟨rfl, nn, kk⟩
        have N4 := Lib.hid (show Ns w4 V.heap.size (fun _ => False) [(g1, nA l1 (setE es u (some ⟨g2, 0, none⟩))), (g2, nK l1 v), (g3, nK l2 v)] from nn)
        have B4 := Lib.hid (BK.out.trans (kk.below BK.out.size (fun i e => e.1)))
        have A4 := Lib.hid (all_set (NK.out.up_ (k := 0) rfl) AL.out HU.out)
        clear nn kk C1
        go_wp2
        exact ⟨⟨k + 1, _, by omega, by go_num, A4, N4, B4⟩, by simp [intOf]; omega⟩
      · obtain rfl : k = m := by omega
        have AM := Lib.hid (show All es ls (some ⟨g2, 0, none⟩) from by have := AL.out; rwa [List.take_of_length_le (by rw [HLT.out]; exact Nat.le_refl _)] at this)
        have C1 := Lib.hid (NK.out.copy_ (k := 0) rfl BK.out.size (fun _ q => q.elim) none 0 2 (mt_none _ _) (fun i e => by cases e))
        rw [show mtr none = .pointer none from rfl] at C1
        clear B3 N3
        go_wp2_with fail
        (with_reducible refine C1.out.mono ?_)
        rintro e w5 ⟨g4, rfl, nn, kk, _⟩
        have N5 := Lib.hid (show Ns w5 V.heap.size (fun _ => False) [(g1, nA l1 es), (g2, nK l1 v), (g3, nK l2 v), (g4, nC l1 es)] from nn)
        have B5 := Lib.hid (BK.out.trans (kk.below BK.out.size (fun i e => by cases e)))
        clear nn kk C1 NK BK
        have D1 := Lib.hid (fun W (hs : Still w5 W) => (N5.out.still hs).len_ (k := 3) rfl)
        have D2 := Lib.hid (fun W (hs : Still w5 W) => (N5.out.still hs).len_ (k := 0) rfl)
        have D3 := Lib.hid (fun W (hs : Still w5 W) => (N5.out.still hs).kind_ (k := 3) rfl)
        have D4 := Lib.hid (fun W (hs : Still w5 W) => (N5.out.still hs).kind_ (k := 0) rfl)
        simp only [nA, nC, kindD, Bool.false_eq_true, if_false] at D1 D2 D3 D4
        go_wp2_with fail
        (with_reducible refine (D1.out _ (Still.refl _)).mono ?_)
        rintro e w6 ⟨rfl, hs⟩
        have S6 := Lib.hid hs
        clear hs
        go_wp2_with fail
        (with_reducible refine (D2.out _ S6.out).mono ?_)
        rintro e w7 ⟨rfl, hs⟩
        have S7 := Lib.hid (S6.out.trans hs)
        clear hs
        go_wp2_with fail
        (with_reducible refine (D3.out _ S7.out).mono ?_)
        rintro e w8 ⟨rfl, hs⟩
        have S8 := Lib.hid (S7.out.trans hs)
        clear hs
        go_wp2_with fail
        (with_reducible refine (D4.out _ S8.out).mono ?_)
        rintro e w9 ⟨rfl, hs⟩
        have N9 := Lib.hid (N5.out.still (S8.out.trans hs))
        have B9 := Lib.hid (B5.out.trans ((S8.out.trans hs).below _))
        clear hs D1 D2 D3 D4 N5 B5 S6 S7 S8
        go_wp2_with fail
        go_loopw [82] (fun i wr => ∃ (k2 : Nat) (es2 : List Ent), k2 ≤ k ∧ i = .int .i64 k2 ∧ Hid (Ns wr V.heap.size (fun _ => False) [(g1, nA l1 es), (g2, nK l1 v), (g3, nK l2 v), (g4, nC l1 es2)]) ∧ Hid (Below V.heap.size V wr)) (fun i _ => k - (intOf i).toNat)
        case atStart => exact ⟨0, es, Nat.zero_le _, rfl, N9, B9⟩
        case round =>
          obtain ⟨k2, es2, hk2, rfl, NK, BK⟩ := hrel
          by_cases h1 : k2 < k
          · obtain ⟨ad, u, rfl, _, hu, hcell⟩ := (HT.out wr BK.out).at_ h1
            have GK := Lib.hid (AM.out.2 u (List.mem_of_getElem? hu))
            have hnq := neq_self (some ⟨g2, 0, none⟩)
            clear hu
            by_cases hp : (k2 : Int) % 2 = 0
            · have C1 := Lib.hid (NK.out.y_dropkid (k := 3) rfl BK.out.size (fun _ q => q.elim) (o := 2) rfl rfl u _ rfl)
              go_wp2_with fail
              (with_reducible refine C1.out.mono ?_)
              rintro e w10 ⟨⟨nx, rfl⟩, nn, kk⟩
              have N10 := Lib.hid (show Ns w10 V.heap.size (fun _ => False) [(g1, nA l1 es), (g2, nK l1 v), (g3, nK l2 v), (g4, nC l1 (dropE es2 u))] from nn)
              have B10 := Lib.hid (BK.out.trans (kk.below BK.out.size (fun i e => e.1)))
              have C2 := Lib.hid (N10.out.kid_ (k := 0) rfl u _ rfl)
              simp only [nA] at C2
              rw [GK.out] at C2
              clear nn kk C1
              go_wp2_with fail
              (with_reducible refine C2.out.mono ?_)
              rintro e w11 ⟨rfl, hs⟩
              have N11 := Lib.hid (N10.out.still hs)
              have B11 := Lib.hid (B10.out.trans (hs.below _))
              clear hs C2
              go_wp2
              exact ⟨⟨k2 + 1, _, by omega, by go_num, N11, B11⟩, by simp [intOf]; omega⟩
            · have C1 := Lib.hid (NK.out.y_setkid (k := 3) (j := 2) rfl rfl BK.out.size (fun _ q => q.elim) (o := 2) rfl rfl u _ rfl)
              go_wp2_with fail
              (with_reducible refine C1.out.mono ?_)
              rintro e w10 ⟨rfl, nn, kk⟩
              have N10 := Lib.hid (show Ns w10 V.heap.size (fun _ => False) [(g1, nA l1 es), (g2, nK l1 v), (g3, nK l2 v), (g4, nC l1 (setE es2 u (some ⟨g3, 0, none⟩)))] from nn)
              have B10 := Lib.hid (BK.out.trans (kk.below BK.out.size (fun i e => e.1)))
              have C2 := Lib.hid (N10.out.kid_ (k := 0) rfl u _ rfl)
              simp only [nA] at C2
              rw [GK.out] at C2
              clear nn kk C1
              go_wp2_with fail
              (with_reducible refine C2.out.mono ?_)
              rintro e w11 ⟨rfl, hs⟩
              have N11 := Lib.hid (N10.out.still hs)
              have B11 := Lib.hid (B10.out.trans (hs.below _))
              clear hs C2
              go_wp2
              exact ⟨⟨k2 + 1, _, by omega, by go_num, N11, B11⟩, by simp [intOf]; omega⟩
          · obtain rfl : k2 = k := by omega
            clear N9 B9
            have C1 := Lib.hid (NK.out.y_setval (k := 3) rfl BK.out.size (fun _ q => q.elim) (o := 2) rfl v)
            go_wp2_with fail
            (with_reducible refine C1.out.mono ?_)
            rintro e w10 ⟨rfl, nn, kk⟩
            have N10 := Lib.hid (show Ns w10 V.heap.size (fun _ => False) [(g1, nA l1 es), (g2, nK l1 v), (g3, nK l2 v), (g4, nD l1 v es2)] from nn)
            have B10 := Lib.hid (BK.out.trans (kk.below BK.out.size (fun i e => e.1)))
            obtain ⟨_, y1, y2⟩ := HX.out w10 B10.out
            have C2 := Lib.hid (N10.out.y_setpart (k := 3) rfl B10.out.size (fun _ q => q.elim) (o := 2) rfl A2 n2 c2 w.heap.size l2 y2 (Nat.le_trans LW.out B10.out.size) (by omega))
            clear nn kk C1 NK BK y1 y2
            go_wp2_with fail
            (with_reducible refine C2.out.mono ?_)
            rintro e w11 ⟨rfl, nn, kk⟩
            have N11 := Lib.hid (show Ns w11 V.heap.size (fun _ => False) [(g1, nA l1 es), (g2, nK l1 v), (g3, nK l2 v), (g4, nD l2 v es2)] from nn)
            have B11 := Lib.hid (B10.out.trans (kk.below B10.out.size (fun i e => e.1)))
            have C3 := Lib.hid (N11.out.val_ (k := 0) rfl)
            simp only [nA] at C3
            clear nn kk C2 N10 B10
            go_wp2_with fail
            (with_reducible refine C3.out.mono ?_)
            rintro e w12 ⟨rfl, hs⟩
            have N12 := Lib.hid (N11.out.still hs)
            have B12 := Lib.hid (B11.out.trans (hs.below _))
            have C4 := Lib.hid (N12.out.part_ (k := 0) rfl)
            simp only [nA] at C4
            clear hs C3 N11 B11
            go_wp2_with fail
            (with_reducible refine C4.out.mono ?_)
            rintro e w13 ⟨A9, c9, rfl, z1, _, z3⟩
            have N13 := Lib.hid (N12.out.below z3)
            have B13 := Lib.hid (B12.out.trans (z3.mono B12.out.size))
            obtain ⟨_, y1, y2⟩ := HX.out w13 B13.out
            have C5 := Lib.hid (rsame_any A9 A1 l1.length n1 c9 c1 w13.heap.size l1 l1 w13 z1 (y1.more (Nat.le_trans LW.out B13.out.size)))
            clear z1 z3 y1 y2 C4 N12 B12
            go_wp2_with fail
            (with_reducible refine C5.out.mono ?_)
            rintro e w14 ⟨rfl, hs⟩
            rw [show sameB l1 l1 = true by simp [sameB]]
            have N14 := Lib.hid (N13.out.still hs)
            have B14 := Lib.hid (B13.out.trans (hs.below _))
            have C6 := Lib.hid (N14.out.len_ (k := 3) rfl)
            simp only [nD] at C6
            clear hs C5 N13 B13
            go_wp2_with fail
            (with_reducible refine C6.out.mono ?_)
            rintro e w15 ⟨rfl, hs⟩
            have N15 := Lib.hid (N14.out.still hs)
            have B15 := Lib.hid (B14.out.trans (hs.below _))
            have L0 := Lib.hid (show Lft es ls 0 from fun b hb => ⟨(AM.out.1 b).1 hb, by simp⟩)
            clear hs C6 N14 B14
            go_wp2_with fail
            go_loopw [126] (fun i wr => ∃ (k3 : Nat) (es3 : List Ent), k3 ≤ k2 ∧ i = .int .i64 k3 ∧ Hid (Lft es3 ls k3) ∧ Hid (Ns wr V.heap.size (fun _ => False) [(g1, nA l1 es3), (g2, nK l1 v), (g3, nK l2 v), (g4, nD l2 v es2)]) ∧ Hid (Below V.heap.size V wr)) (fun i _ => k2 - (intOf i).toNat)
            case atStart => exact ⟨0, es, Nat.zero_le _, rfl, L0, N15, B15⟩
            case round =>
              obtain ⟨k3, es3, hk3, rfl, LF, NK, BK⟩ := hrel
              by_cases h1 : k3 < k2
              · obtain ⟨ad, u, rfl, _, hu, hcell⟩ := (HT.out wr BK.out).at_ h1
                have HU := Lib.hid hu
                have C1 := Lib.hid (NK.out.y_dropkid (k := 0) rfl BK.out.size (fun _ q => q.elim) (o := 1) rfl rfl u _ rfl)
                clear hu
                go_wp2_with fail
                (with_reducible refine C1.out.mono ?_)
                rintro e w16 ⟨⟨nx, rfl⟩, nn, kk⟩
                have N16 := Lib.hid (show Ns w16 V.heap.size (fun _ => False) [(g1, nA l1 (dropE es3 u)), (g2, nK l1 v), (g3, nK l2 v), (g4, nD l2 v es2)] from nn)
                have B16 := Lib.hid (BK.out.trans (kk.below BK.out.size (fun i e => e.1)))
                have L16 := Lib.hid (lft_drop (NK.out.up_ (k := 0) rfl) LF.out HU.out)
                clear nn kk C1
                go_wp2
                exact ⟨⟨k3 + 1, _, by omega, by go_num, L16, N16, B16⟩, by simp [intOf]; omega⟩
              · obtain rfl : k3 = k2 := by omega
                obtain rfl : es3 = [] := lft_all (NK.out.up_ (k := 0) rfl) LF.out HLT.out
                clear N15 B15
                have C1 := Lib.hid (NK.out.val_ (k := 3) rfl)
                simp only [nD] at C1
                go_wp2_with fail
                (with_reducible refine C1.out.mono ?_)
                rintro e w16 ⟨rfl, hs⟩
                have N16 := Lib.hid (NK.out.still hs)
                have B16 := Lib.hid (BK.out.trans (hs.below _))
                have C2 := Lib.hid (N16.out.len_ (k := 0) rfl)
                simp only [nA, List.length_nil] at C2
                clear hs C1 NK BK
                go_wp2_with fail
                (with_reducible refine C2.out.mono ?_)
                rintro e w17 ⟨rfl, hs⟩
                have N17 := Lib.hid (N16.out.still hs)
                have B17 := Lib.hid (B16.out.trans (hs.below _))
                have C3 := Lib.hid (N17.out.len_ (k := 3) rfl)
                simp only [nD] at C3
                clear hs C2 N16 B16
                go_wp2_with fail
                (with_reducible refine C3.out.mono ?_)
                rintro e w18 ⟨rfl, hs⟩
                have N18 := Lib.hid (N17.out.still hs)
                have B18 := Lib.hid (B17.out.trans (hs.below _))
                have C4 := Lib.hid (N18.out.part_ (k := 3) rfl)
                simp only [nD] at C4
                clear hs C3 N17 B17
                go_wp2_with fail
                (with_reducible refine C4.out.mono ?_)
                rintro e w19 ⟨A9, c9, rfl, z1, _, z3⟩
                have B19 := Lib.hid (B18.out.trans (z3.mono B18.out.size))
                obtain ⟨_, y1, y2⟩ := HX.out w19 B19.out
                have C5 := Lib.hid (rsame_any A9 A2 l2.length n2 c9 c2 w19.heap.size l2 l2 w19 z1 (y2.more (Nat.le_trans LW.out B19.out.size)))
                clear z1 z3 y1 y2 C4 N18 B18
                go_wp2_with fail
                (with_reducible refine C5.out.mono ?_)
                rintro e w20 ⟨rfl, hs⟩
                rw [show sameB l2 l2 = true by simp [sameB]]
                have B20 := Lib.hid (B19.out.trans (hs.below _))
                clear hs C5 B19
                go_wp2_with fail
                (with_reducible refine (nalive_any _).mono ?_)
                rintro e wz ⟨rfl, hb⟩
                have HE := Lib.hid (BW.out.trans ((B20.out.trans (hb.mono B20.out.size)).mono LW.out))
                clear hb
                go_wp2
                go_ret
                exact ⟨rfl, HE.out⟩

set_option maxRecDepth 100000 in
theorem lifted (os : Os) (started : os.Started) (H : Type) (enc : TypeId × Value → H) :
    ReturnsInHanded {} Try.checked os 4 .any (Rows.nodeCopiesSpec.pre6 enc Try.prog Try.f4 Rows.nodeCopiesRow.domain false) (Rows.nodeCopiesSpec.post enc Try.prog Try.f4 false true false false) := by
  refine returnsInHanded_of_change_sized (C := Try.checked) own started (by kernel_rfl) Try.func4
    (ChangeSpec.witness6 (enc := enc) (C := Try.checked) false ⟨#[], #[.slice none 0 0, .agg #[.slice none 0 0, .slice none 0 0], .int .u64 0], []⟩ 8 (by kernel_rfl) (by kernel_rfl) (by kernel_rfl) (by kernel_rfl)) ?_
  intro W base args ds gs before hval0 hW hcnd hsz0 _
  have hsz : (DataW.weightsEach Try.prog (Try.f4.params.toList ++ Rows.nodeCopiesSpec.plain.varTypes Try.prog) (ds ++ gs)).all (· ≤ reachBytes) = true := hsz0
  clear hsz0
  have hval : ∀ (j : Nat) t v, Try.f4.params[j]? = some t → args[j]? = some v → Value.okWide Try.prog W .any base t v := hval0
  have hW' := hW
  obtain ⟨p, q, hA0, hV, rfl, hfz, hnd⟩ := hW
  have hA : DataW.TrodAll enc Try.prog W 0 (fun _ => true) true Try.f4.params.toList args.toList ds p := hA0
  rw [Try.params4] at hA hval hsz
  obtain ⟨v0, vs0, d0, ds0, p0, q0, hargs, rfl, rfl, h0, r0⟩ := trodAll_cons hA
  obtain ⟨v1, vs1, d1, ds1, p1, q1, rfl, rfl, rfl, h1, r1⟩ := trodAll_cons r0
  obtain ⟨v2, vs2, d2, ds2, p2, q2, rfl, rfl, rfl, h2, r2⟩ := trodAll_cons r1
  obtain ⟨rfl, rfl, rfl⟩ := trodAll_nil r2
  obtain rfl : args = #[v0, v1, v2] := by cases args; simp_all
  obtain ⟨rfl, rfl⟩ := trodVars_none hV
  have k0 := h0
  have lt0 : ∀ x ∈ p0, x.block < W.heap.size := by obtain ⟨m, hm⟩ := k0; exact DataW.trod_lt m _ _ _ hm
  have k1 := h1
  have lt1 : ∀ x ∈ p1, x.block < W.heap.size := by obtain ⟨m, hm⟩ := k1; exact DataW.trod_lt m _ _ _ hm
  have k2 := h2
  have lt2 : ∀ x ∈ p2, x.block < W.heap.size := by obtain ⟨m, hm⟩ := k2; exact DataW.trod_lt m _ _ _ hm
  obtain ⟨A0, n0, c0, l0, rfl, b0, nc0⟩ := open_byt (hval 0 24 v0 rfl rfl) h0
  obtain ⟨A1, n1, c1, l1, A2, n2, c2, l2, rfl, t1, t2⟩ := open_parts (hval 1 45 v1 rfl rfl) h1 (weigh hsz (j := 1) rfl rfl)
  obtain ⟨x2, rfl, _, _, _⟩ := open_int Try.underlying22 (hval 2 22 v2 rfl rfl) h2
  clear hA0 hval0
  refine (walk A0 n0 c0 l0 A1 n1 c1 l1 A2 n2 c2 l2 x2 W b0 nc0 t1.1 t1.2.2 t2.1 t2.2.2).mono fun e W' ⟨he, bel⟩ => ?_
  subst he
  exact ⟨_, rfl, _, _, _, [], _, [], hW', trodAll_mk1 (shut_bool Try.underlying4 _), (trodAll_cons_mk (Below.trod laidOut (by kernel_rfl) (of_decide_eq_true (by kernel_rfl)) k0 bel lt0) (trodAll_cons_mk (Below.trod laidOut (by kernel_rfl) (of_decide_eq_true (by kernel_rfl)) k1 bel lt1) (trodAll_cons_mk (Below.trod laidOut (by kernel_rfl) (of_decide_eq_true (by kernel_rfl)) k2 bel lt2) trodAll_mk0))), rfl, bel.frame _, fun h => by cases h⟩

set_option maxRecDepth 100000 in
theorem proved : Rows.NodeCopiesSaid :=
  OpenClaim.holds_of_wide 4 Try.f4 rfl rfl rfl rfl rfl rfl rfl ⟨rfl, rfl, rfl, rfl, rfl⟩ rfl rfl rfl rfl rfl (by kernel_rfl) Try.func4 (by kernel_rfl)
    (of_decide_eq_true (by kernel_rfl)) (by unfold Func.isWrapper; first | (rw [if_pos (by decide +kernel)]; kernel_rfl) | (rw [if_neg (by decide +kernel)]; exact ⟨rfl, rfl⟩))
    (fun os started H enc _ => lifted os started H enc)
end Go.Proofs.Ytgelmhldicmmdaa.nodeCopies
