/-
  What the document's one and Parse answer: the schema of a text, or an error.
-/
import Derived.Test.YtdpddkpfllioiaaDoorTupleParse
import Derived.RegionTactic
import Derived.BigRegion
namespace Go.Proofs.YtdpddkpfllioiaaDoor
open Go.RowKit

/-- The kind that the names up to a place tell. -/
def KAt (nm : List UInt8) (i : Nat) (k : Int) : Prop := (k = 0 ∧ ∀ j : Int, 1 ≤ j → j ≤ i → nameL j ≠ nm) ∨ (1 ≤ k ∧ k ≤ i ∧ nameL k = nm)
theorem KAt.start (nm : List UInt8) : KAt nm 0 0 := .inl ⟨rfl, fun j h1 h2 => by omega⟩
theorem KAt.hit {nm : List UInt8} {i : Nat} (h : nameL ((i : Int) + 1) = nm) : KAt nm (i + 1) ((i : Int) + 1) := .inr ⟨by omega, by omega, h⟩
theorem KAt.miss {nm : List UInt8} {i : Nat} {k : Int} (h : KAt nm i k) (hn : nameL ((i : Int) + 1) ≠ nm) : KAt nm (i + 1) k := by
  rcases h with ⟨h1, h2⟩ | ⟨h1, h2, h3⟩
  · refine .inl ⟨h1, fun j a b => ?_⟩
    by_cases q : j = (i : Int) + 1
    · subst q; exact hn
    · exact h2 j a (by omega)
  · exact .inr ⟨h1, by omega, h3⟩
theorem Blk.far1 {w : World} {g g' i : Nat} {cs : Array Value} (h : Blk w g cs) (hg : g ≠ g') (v : Value) : Blk (w.setCell ⟨g', i, none⟩ v) g cs := by
  obtain ⟨t, h⟩ := h
  exact ⟨t, (Below.heap_setCell w ⟨g', i, none⟩ v g hg).trans h⟩

set_option maxRecDepth 100000 in
set_option maxHeartbeats 4000000 in
theorem one_any (l : List UInt8) (w : World) :
    Calls Tryd.prog 39 #[.string (bst l)] w (PFPost w l) := by
  generalize hW : (w.alloc (.cells #[.int .i64 0, .bool false] 57)).alloc (.cells #[.int .i64 0, .bool false] 57) = W
  have H0 := Lib.hid (show Two W w.heap.size (.int .i64 0) (.bool false) from by subst hW; exact (Two.new _ _ _ _).alloc _)
  have H1 := Lib.hid (show Two W (w.heap.size + 1) (.int .i64 0) (.bool false) from by subst hW; have := Two.new (w.alloc (.cells #[.int .i64 0, .bool false] 57)) 57 (.int .i64 0) (.bool false); rwa [World.size_alloc] at this)
  have HB := Lib.hid (show Below w.heap.size w W from by subst hW; exact ((Below.refl _ _).alloc (Nat.le_refl _) _).alloc (by simp) _)
  have x0 := H1.out.k0
  have x1 := H1.out.k1
  have xf := H1.out.fz
  cases l with
  | nil =>
    have NM : nmL [] = [] := rfl
    have ND : dnB [] = false := rfl
    go_enter Tryd.func39, Tryd.ntmps39
    go_wp2_with fail
    generalize hWx : ((W.setCell ⟨w.heap.size + 1, 0, none⟩ (.int .i64 0)).setCell ⟨w.heap.size + 1, 1, none⟩ (.bool false)) = Wx
    have K0 := Lib.hid (show Two Wx w.heap.size (.int .i64 0) (.bool false) from by subst hWx; exact (H0.out.far1 (by omega) _).far1 (by omega) _)
    have K1 := Lib.hid (show Two Wx (w.heap.size + 1) (.int .i64 0) (.bool false) from by subst hWx; exact (H1.out.set_ 0 (.int .i64 0)).set_ 1 (.bool false))
    have KB := Lib.hid (show Below w.heap.size w Wx from by subst hWx; exact (HB.out.setCell (by simp) _).setCell (by simp) _)
    clear hWx hW x0 x1 xf H0 H1 HB
    (with_reducible refine (names_any Wx).mono ?_)
    rintro e w1 ⟨gN, rfl, hgN, hbl, h1⟩
    have L0 := Lib.hid (K0.out.below h1 K0.out.lt)
    have L1 := Lib.hid (K1.out.below h1 K1.out.lt)
    have LN := Lib.hid hbl
    have LB := Lib.hid (KB.out.trans (h1.mono KB.out.size))
    have hgn : gN ≠ w.heap.size + 1 := by have := K1.out.lt; omega
    clear h1 hbl hgN K0 K1 KB
    go_wp2
    go_loopw [6] (fun i wr => ∃ (k : Nat) (kd : Int), k ≤ 10 ∧ i = .int .i64 k ∧ Hid (KAt [] k kd) ∧ Hid (Two wr (w.heap.size + 1) (.int .i64 kd) (.bool false)) ∧ Hid (Two wr w.heap.size (.int .i64 0) (.bool false)) ∧ Hid (Blk wr gN (allN.map sv).toArray) ∧ Hid (Below w.heap.size w wr)) (fun i _ => 10 - (intOf i).toNat)
    case atStart => exact ⟨0, 0, by omega, rfl, KAt.start _, L1, L0, LN, LB⟩
    case round =>
      obtain ⟨k, kd, hk, rfl, HK, M1, M0, MN, MB⟩ := hrel
      have x0 := M1.out.k0
      have x1 := M1.out.k1
      have xf := M1.out.fz
      by_cases hlt : k < 10
      · have hnm := nm_cell MN.out hlt
        have d1 : (k : Int) < 10 := by omega
        by_cases h2 : nameL ((k : Int) + 1) = []
        · have e1 : ((bst (nameL ((k : Int) + 1))).toList == (bst ([])).toList) = true := by rw [str_same]; exact decide_eq_true h2
          have HM := Lib.hid h2
          clear h2
          go_wp2
          exact ⟨⟨k + 1, (k : Int) + 1, by omega, by go_num, KAt.hit HM.out, M1.out.set_ 0 (.int .i64 ((k : Int) + 1)), M0.out.far1 (by omega) _, MN.out.far1 hgn _, MB.out.setCell (by simp) _⟩, by simp [intOf]; omega⟩
        · have e1 : ((bst (nameL ((k : Int) + 1))).toList == (bst ([])).toList) = false := by rw [str_same]; exact decide_eq_false h2
          have HM := Lib.hid h2
          clear h2
          go_wp2
          exact ⟨⟨k + 1, kd, by omega, by go_num, HK.out.miss HM.out, M1, M0, MN, MB⟩, by simp [intOf]; omega⟩
      · obtain rfl : k = 10 := by omega
        have y0 := M0.out.k0
        have y1 := M0.out.k1
        have yf := M0.out.fz
        have d1 : ¬ ((10 : Nat) : Int) < 10 := by omega
        rcases HK.out with ⟨q1, q2⟩ | ⟨q1, q2, q3⟩
        · subst q1
          have HN := Lib.hid (show parseF _ = none from parseF_none (fun j a b => by rw [NM]; exact q2 j a (by omega)))
          clear q2
          go_wp2_with fail
          go_region
          all_goals (
            go_wp2
            (try simp only [Exit.inBlock, Exit.then])
            have e := load_fd 57 Tryd.underlying57 rfl size_rfd (show Two (((wr.setCell ⟨w.heap.size, 0, none⟩ (.int .i64 0)).setCell ⟨w.heap.size, 1, none⟩ (.bool false)).drew) w.heap.size (.int .i64 0) (.bool false) from (M0.out.set_ 0 (.int .i64 0)).set_ 1 (.bool false))
            refine bodyPost_ret (v := .tuple #[.agg #[.int .i64 0, .bool false], .bool false]) (by rw [results_cell_tmp rfl]; simp [asAddr, Result.andThen, e]) rfl ?_
            exact PFPost.no HN.out ((MB.out.setCell (Nat.le_refl _) _).setCell (Nat.le_refl _) _).drew)
        · have HN := Lib.hid (show parseF _ = some ⟨kd, false⟩ from by have := parseF_name (k := kd) ⟨q1, by omega⟩ (q3.trans NM.symm); rw [ND] at this; exact this)
          have d2 : 0 < kd := by omega
          clear q1 q2 q3
          go_wp2_with fail
          go_region
          all_goals (
            go_wp2
            (try simp only [Exit.inBlock, Exit.then])
            have e := load_fd 57 Tryd.underlying57 rfl size_rfd (show Two (((wr.setCell ⟨w.heap.size, 0, none⟩ (.int .i64 kd)).setCell ⟨w.heap.size, 1, none⟩ (.bool false)).drew) w.heap.size (.int .i64 kd) (.bool false) from (M0.out.set_ 0 (.int .i64 kd)).set_ 1 (.bool false))
            refine bodyPost_ret (v := .tuple #[.agg #[.int .i64 kd, .bool false], .bool true]) (by rw [results_cell_tmp rfl]; simp [asAddr, Result.andThen, e]) rfl ?_
            exact PFPost.yes HN.out ((MB.out.setCell (Nat.le_refl _) _).setCell (Nat.le_refl _) _).drew)
  | cons u r =>
    have hs : (bst (u :: r)).size = r.length + 1 := by rw [bst_size]; rfl
    have hq : ∀ h : 0 < (bst (u :: r)).size, (bst (u :: r))[0]'h = u := fun _ => rfl
    by_cases h45 : u = 45
    · subst h45
      have NM : nmL (45 :: r) = r := rfl
      have ND : dnB (45 :: r) = true := rfl
      have hx : (bst (45 :: r)).extract 1 (r.length + 1) = bst r := by rw [Lib.extract_eq, bst_toList]; simp [bst]
      go_enter Tryd.func39, Tryd.ntmps39
      go_wp2_with fail
      clear hs hq hx
      generalize hWx : (((W.setCell ⟨w.heap.size + 1, 0, none⟩ (.int .i64 0)).setCell ⟨w.heap.size + 1, 1, none⟩ (.bool false)).setCell ⟨w.heap.size + 1, 1, none⟩ (.bool true)) = Wx
      have K0 := Lib.hid (show Two Wx w.heap.size (.int .i64 0) (.bool false) from by subst hWx; exact ((H0.out.far1 (by omega) _).far1 (by omega) _).far1 (by omega) _)
      have K1 := Lib.hid (show Two Wx (w.heap.size + 1) (.int .i64 0) (.bool true) from by subst hWx; exact ((H1.out.set_ 0 (.int .i64 0)).set_ 1 (.bool false)).set_ 1 (.bool true))
      have KB := Lib.hid (show Below w.heap.size w Wx from by subst hWx; exact ((HB.out.setCell (by simp) _).setCell (by simp) _).setCell (by simp) _)
      clear hWx hW x0 x1 xf H0 H1 HB
      (with_reducible refine (names_any Wx).mono ?_)
      rintro e w1 ⟨gN, rfl, hgN, hbl, h1⟩
      have L0 := Lib.hid (K0.out.below h1 K0.out.lt)
      have L1 := Lib.hid (K1.out.below h1 K1.out.lt)
      have LN := Lib.hid hbl
      have LB := Lib.hid (KB.out.trans (h1.mono KB.out.size))
      have hgn : gN ≠ w.heap.size + 1 := by have := K1.out.lt; omega
      clear h1 hbl hgN K0 K1 KB
      go_wp2
      go_loopw [6] (fun i wr => ∃ (k : Nat) (kd : Int), k ≤ 10 ∧ i = .int .i64 k ∧ Hid (KAt r k kd) ∧ Hid (Two wr (w.heap.size + 1) (.int .i64 kd) (.bool true)) ∧ Hid (Two wr w.heap.size (.int .i64 0) (.bool false)) ∧ Hid (Blk wr gN (allN.map sv).toArray) ∧ Hid (Below w.heap.size w wr)) (fun i _ => 10 - (intOf i).toNat)
      case atStart => exact ⟨0, 0, by omega, rfl, KAt.start _, L1, L0, LN, LB⟩
      case round =>
        obtain ⟨k, kd, hk, rfl, HK, M1, M0, MN, MB⟩ := hrel
        have x0 := M1.out.k0
        have x1 := M1.out.k1
        have xf := M1.out.fz
        by_cases hlt : k < 10
        · have hnm := nm_cell MN.out hlt
          have d1 : (k : Int) < 10 := by omega
          by_cases h2 : nameL ((k : Int) + 1) = r
          · have e1 : ((bst (nameL ((k : Int) + 1))).toList == (bst (r)).toList) = true := by rw [str_same]; exact decide_eq_true h2
            have HM := Lib.hid h2
            clear h2
            go_wp2
            exact ⟨⟨k + 1, (k : Int) + 1, by omega, by go_num, KAt.hit HM.out, M1.out.set_ 0 (.int .i64 ((k : Int) + 1)), M0.out.far1 (by omega) _, MN.out.far1 hgn _, MB.out.setCell (by simp) _⟩, by simp [intOf]; omega⟩
          · have e1 : ((bst (nameL ((k : Int) + 1))).toList == (bst (r)).toList) = false := by rw [str_same]; exact decide_eq_false h2
            have HM := Lib.hid h2
            clear h2
            go_wp2
            exact ⟨⟨k + 1, kd, by omega, by go_num, HK.out.miss HM.out, M1, M0, MN, MB⟩, by simp [intOf]; omega⟩
        · obtain rfl : k = 10 := by omega
          have y0 := M0.out.k0
          have y1 := M0.out.k1
          have yf := M0.out.fz
          have d1 : ¬ ((10 : Nat) : Int) < 10 := by omega
          rcases HK.out with ⟨q1, q2⟩ | ⟨q1, q2, q3⟩
          · subst q1
            have HN := Lib.hid (show parseF _ = none from parseF_none (fun j a b => by rw [NM]; exact q2 j a (by omega)))
            clear q2
            go_wp2_with fail
            go_region
            all_goals (
              go_wp2
              (try simp only [Exit.inBlock, Exit.then])
              have e := load_fd 57 Tryd.underlying57 rfl size_rfd (show Two (((wr.setCell ⟨w.heap.size, 0, none⟩ (.int .i64 0)).setCell ⟨w.heap.size, 1, none⟩ (.bool true)).drew) w.heap.size (.int .i64 0) (.bool true) from (M0.out.set_ 0 (.int .i64 0)).set_ 1 (.bool true))
              refine bodyPost_ret (v := .tuple #[.agg #[.int .i64 0, .bool true], .bool false]) (by rw [results_cell_tmp rfl]; simp [asAddr, Result.andThen, e]) rfl ?_
              exact PFPost.no HN.out ((MB.out.setCell (Nat.le_refl _) _).setCell (Nat.le_refl _) _).drew)
          · have HN := Lib.hid (show parseF _ = some ⟨kd, true⟩ from by have := parseF_name (k := kd) ⟨q1, by omega⟩ (q3.trans NM.symm); rw [ND] at this; exact this)
            have d2 : 0 < kd := by omega
            clear q1 q2 q3
            go_wp2_with fail
            go_region
            all_goals (
              go_wp2
              (try simp only [Exit.inBlock, Exit.then])
              have e := load_fd 57 Tryd.underlying57 rfl size_rfd (show Two (((wr.setCell ⟨w.heap.size, 0, none⟩ (.int .i64 kd)).setCell ⟨w.heap.size, 1, none⟩ (.bool true)).drew) w.heap.size (.int .i64 kd) (.bool true) from (M0.out.set_ 0 (.int .i64 kd)).set_ 1 (.bool true))
              refine bodyPost_ret (v := .tuple #[.agg #[.int .i64 kd, .bool true], .bool true]) (by rw [results_cell_tmp rfl]; simp [asAddr, Result.andThen, e]) rfl ?_
              exact PFPost.yes HN.out ((MB.out.setCell (Nat.le_refl _) _).setCell (Nat.le_refl _) _).drew)
    · have ND : dnB (u :: r) = false := by simpa [dnB] using h45
      have NM : nmL (u :: r) = u :: r := by unfold nmL; rw [ND]; rfl
      have h46 : ((u.toNat : Int) == 45) = false := by
        rw [beq_eq_false_iff_ne]
        intro q
        have q2 : u.toNat = (45 : UInt8).toNat := by show u.toNat = 45; omega
        exact h45 (UInt8.toNat_inj.1 q2)
      go_enter Tryd.func39, Tryd.ntmps39
      go_wp2_with fail
      clear hs hq h46
      generalize hWx : ((W.setCell ⟨w.heap.size + 1, 0, none⟩ (.int .i64 0)).setCell ⟨w.heap.size + 1, 1, none⟩ (.bool false)) = Wx
      have K0 := Lib.hid (show Two Wx w.heap.size (.int .i64 0) (.bool false) from by subst hWx; exact (H0.out.far1 (by omega) _).far1 (by omega) _)
      have K1 := Lib.hid (show Two Wx (w.heap.size + 1) (.int .i64 0) (.bool false) from by subst hWx; exact (H1.out.set_ 0 (.int .i64 0)).set_ 1 (.bool false))
      have KB := Lib.hid (show Below w.heap.size w Wx from by subst hWx; exact (HB.out.setCell (by simp) _).setCell (by simp) _)
      clear hWx hW x0 x1 xf H0 H1 HB
      (with_reducible refine (names_any Wx).mono ?_)
      rintro e w1 ⟨gN, rfl, hgN, hbl, h1⟩
      have L0 := Lib.hid (K0.out.below h1 K0.out.lt)
      have L1 := Lib.hid (K1.out.below h1 K1.out.lt)
      have LN := Lib.hid hbl
      have LB := Lib.hid (KB.out.trans (h1.mono KB.out.size))
      have hgn : gN ≠ w.heap.size + 1 := by have := K1.out.lt; omega
      clear h1 hbl hgN K0 K1 KB
      go_wp2
      go_loopw [6] (fun i wr => ∃ (k : Nat) (kd : Int), k ≤ 10 ∧ i = .int .i64 k ∧ Hid (KAt (u :: r) k kd) ∧ Hid (Two wr (w.heap.size + 1) (.int .i64 kd) (.bool false)) ∧ Hid (Two wr w.heap.size (.int .i64 0) (.bool false)) ∧ Hid (Blk wr gN (allN.map sv).toArray) ∧ Hid (Below w.heap.size w wr)) (fun i _ => 10 - (intOf i).toNat)
      case atStart => exact ⟨0, 0, by omega, rfl, KAt.start _, L1, L0, LN, LB⟩
      case round =>
        obtain ⟨k, kd, hk, rfl, HK, M1, M0, MN, MB⟩ := hrel
        have x0 := M1.out.k0
        have x1 := M1.out.k1
        have xf := M1.out.fz
        by_cases hlt : k < 10
        · have hnm := nm_cell MN.out hlt
          have d1 : (k : Int) < 10 := by omega
          by_cases h2 : nameL ((k : Int) + 1) = (u :: r)
          · have e1 : ((bst (nameL ((k : Int) + 1))).toList == (bst ((u :: r))).toList) = true := by rw [str_same]; exact decide_eq_true h2
            have HM := Lib.hid h2
            clear h2
            go_wp2
            exact ⟨⟨k + 1, (k : Int) + 1, by omega, by go_num, KAt.hit HM.out, M1.out.set_ 0 (.int .i64 ((k : Int) + 1)), M0.out.far1 (by omega) _, MN.out.far1 hgn _, MB.out.setCell (by simp) _⟩, by simp [intOf]; omega⟩
          · have e1 : ((bst (nameL ((k : Int) + 1))).toList == (bst ((u :: r))).toList) = false := by rw [str_same]; exact decide_eq_false h2
            have HM := Lib.hid h2
            clear h2
            go_wp2
            exact ⟨⟨k + 1, kd, by omega, by go_num, HK.out.miss HM.out, M1, M0, MN, MB⟩, by simp [intOf]; omega⟩
        · obtain rfl : k = 10 := by omega
          have y0 := M0.out.k0
          have y1 := M0.out.k1
          have yf := M0.out.fz
          have d1 : ¬ ((10 : Nat) : Int) < 10 := by omega
          rcases HK.out with ⟨q1, q2⟩ | ⟨q1, q2, q3⟩
          · subst q1
            have HN := Lib.hid (show parseF _ = none from parseF_none (fun j a b => by rw [NM]; exact q2 j a (by omega)))
            clear q2
            go_wp2_with fail
            go_region
            all_goals (
              go_wp2
              (try simp only [Exit.inBlock, Exit.then])
              have e := load_fd 57 Tryd.underlying57 rfl size_rfd (show Two (((wr.setCell ⟨w.heap.size, 0, none⟩ (.int .i64 0)).setCell ⟨w.heap.size, 1, none⟩ (.bool false)).drew) w.heap.size (.int .i64 0) (.bool false) from (M0.out.set_ 0 (.int .i64 0)).set_ 1 (.bool false))
              refine bodyPost_ret (v := .tuple #[.agg #[.int .i64 0, .bool false], .bool false]) (by rw [results_cell_tmp rfl]; simp [asAddr, Result.andThen, e]) rfl ?_
              exact PFPost.no HN.out ((MB.out.setCell (Nat.le_refl _) _).setCell (Nat.le_refl _) _).drew)
          · have HN := Lib.hid (show parseF _ = some ⟨kd, false⟩ from by have := parseF_name (k := kd) ⟨q1, by omega⟩ (q3.trans NM.symm); rw [ND] at this; exact this)
            have d2 : 0 < kd := by omega
            clear q1 q2 q3
            go_wp2_with fail
            go_region
            all_goals (
              go_wp2
              (try simp only [Exit.inBlock, Exit.then])
              have e := load_fd 57 Tryd.underlying57 rfl size_rfd (show Two (((wr.setCell ⟨w.heap.size, 0, none⟩ (.int .i64 kd)).setCell ⟨w.heap.size, 1, none⟩ (.bool false)).drew) w.heap.size (.int .i64 kd) (.bool false) from (M0.out.set_ 0 (.int .i64 kd)).set_ 1 (.bool false))
              refine bodyPost_ret (v := .tuple #[.agg #[.int .i64 kd, .bool false], .bool true]) (by rw [results_cell_tmp rfl]; simp [asAddr, Result.andThen, e]) rfl ?_
              exact PFPost.yes HN.out ((MB.out.setCell (Nat.le_refl _) _).setCell (Nat.le_refl _) _).drew)

/-- How far the scanning has come: within the text, or behind it. -/
def SAt (l : List UInt8) (ds : List Fd) (from_ i : Nat) : Prop := (i ≤ l.length ∧ from_ ≤ i ∧ PAt l ds (some (l.drop from_)) ∧ ∀ j, from_ ≤ j → j < i → l[j]? ≠ some 44) ∨ (i = l.length + 1 ∧ PAt l ds none)
theorem drop_at_ {l : List UInt8} {a j : Nat} : (l.drop a)[j]? = l[a + j]? := List.getElem?_drop
theorem scan_comma {l : List UInt8} {a i : Nat} (ha : a ≤ i) (hno : ∀ j, a ≤ j → j < i → l[j]? ≠ some 44) (hc : l[i]? = some 44) : comma (l.drop a) = some (i - a) :=
  comma_at (fun j hj => by rw [drop_at_]; exact hno (a + j) (by omega) (by omega)) (by rw [drop_at_, show a + (i - a) = i from by omega]; exact hc)
theorem scan_stop {l : List UInt8} {a : Nat} (hno : ∀ j, a ≤ j → j < l.length → l[j]? ≠ some 44) : comma (l.drop a) = none :=
  comma_end (fun j hj => by rw [drop_at_]; rw [List.length_drop] at hj; exact hno (a + j) (by omega) (by omega))
theorem bst_index {l : List UInt8} {i : Nat} {u : UInt8} (h : l[i]? = some u) : ∀ q : i < (bst l).size, (bst l)[i]'q = u := fun q => by
  have e : (bst l).data[i]'q = u := by
    have := List.getElem?_eq_some_iff.1 h
    obtain ⟨h1, h2⟩ := this
    simpa [bst] using h2
  exact e

set_option maxRecDepth 100000 in
set_option maxHeartbeats 4000000 in
theorem rtparse_any (l : List UInt8) (w : World) (hll : l.length ≤ 100000) :
    Calls Tryd.prog 24 #[.string (bst l)] w (PrPost w (prsL l) (prsE l)) := by
  have hsz : (bst l).size = l.length := bst_size l
  by_cases hl : l = []
  · subst hl
    have h0 : ((bst []).toList == []) = true := by rw [Lib.toList_data, bst_toList]; rfl
    go_enter Tryd.func24, Tryd.ntmps24
    go_wp2
    go_ret2
    exact PrPost.no ⟨rfl, rfl⟩ (Below.refl _ _)
  · have HL := Lib.hid hl
    have h0 : (bst l).toList.isEmpty = false := by rw [Lib.toList_data, bst_toList]; cases l with | nil => exact absurd rfl hl | cons => rfl
    have h00 : ((bst l).toList == []) = false := by rw [Lib.toList_data, bst_toList]; cases l with | nil => exact absurd rfl hl | cons => rfl
    clear hl
    go_enter Tryd.func24, Tryd.ntmps24
    go_wp2
    clear h0 h00
    go_loopw [4, 5, 6] (fun v a b wr => ∃ (from_ i : Nat) (ds : List Fd) (n : Nat), i ≤ l.length + 1 ∧ a = .int .i64 from_ ∧ b = .int .i64 i ∧ n ≤ i ∧ from_ ≤ i ∧ Hid (SAt l ds from_ i) ∧ Hid (FRow wr w.heap.size 57 v n ds) ∧ Hid (Below w.heap.size w wr)) (fun _ _ b _ => l.length + 1 - (intOf b).toNat)
    case atStart => exact ⟨0, 0, [], 0, by omega, rfl, rfl, by omega, by omega, Lib.hid (.inl ⟨by omega, by omega, PAt.start l, fun j _ hj => by omega⟩), MineR.nil _ _ _ _, Below.refl _ _⟩
    case round =>
      obtain ⟨from_, i, ds, n, hi, rfl, rfl, hni, hfi, HA, HR, HB⟩ := hrel
      obtain ⟨Ar, cr, rfl, hcr⟩ := MineR.slice HR.out
      by_cases h1 : i ≤ l.length
      · obtain ⟨_, hfi, hp, hno⟩ := (by rcases HA.out with q | q; exact q; omega : i ≤ l.length ∧ from_ ≤ i ∧ PAt l ds (some (l.drop from_)) ∧ ∀ j, from_ ≤ j → j < i → l[j]? ≠ some 44)
        have HP := Lib.hid hp
        have HNO := Lib.hid hno
        clear hp hno
        by_cases h2 : i < l.length
        · obtain ⟨u, hu⟩ : ∃ u, l[i]? = some u := ⟨_, List.getElem?_eq_getElem h2⟩
          have hidx := bst_index hu
          have HU := Lib.hid hu
          clear hu
          have hi1 : (i : Int) ≤ ((bst l).size : Int) := by omega
          have hi2 : (i : Int) < ((bst l).size : Int) := by omega
          by_cases h44 : u = 44
          · subst h44
            have hex : (bst l).extract from_ i = bst ((l.drop from_).take (i - from_)) := by rw [Lib.extract_eq, bst_toList]; rfl
            have hb1 : (from_ : Int) ≤ (i : Int) := by omega
            have hb2 : (i : Int) ≤ ((bst l).size : Int) := by omega
            have hpart : comma (l.drop from_) = some (i - from_) := scan_comma hfi HNO.out HU.out
            rcases hpf : parseF ((l.drop from_).take (i - from_)) with _ | f
            · have HPF := Lib.hid (fun V => (one_any ((l.drop from_).take (i - from_)) V).mono fun _ _ q => q.none_ hpf)
              have HE := Lib.hid (prs_bad HL.out (HP.out.bad hpart hpf))
              clear hpf
              go_wp2_with fail
              (with_reducible refine (HPF.out _).mono ?_)
              rintro e w2 ⟨⟨k, d, rfl⟩, h2⟩
              have B2 := Lib.hid (HB.out.trans (h2.mono HB.out.size))
              clear h2
              go_wp2
              go_ret2
              exact PrPost.no ⟨HE.out.1.symm, HE.out.2.symm⟩ (B2.out.alloc B2.out.size _)
            · have HPF := Lib.hid (fun V => (one_any ((l.drop from_).take (i - from_)) V).mono fun _ _ q => q.some_ hpf)
              have HS := Lib.hid (show PAt l (ds ++ [f]) (some (l.drop (i + 1))) from by have q := HP.out.step hpart hpf; rwa [List.drop_drop, show from_ + (i - from_ + 1) = i + 1 from by omega] at q)
              clear hpf
              go_wp2_with fail
              (with_reducible refine (HPF.out _).mono ?_)
              rintro e w2 ⟨rfl, h2⟩
              have B2 := Lib.hid (HB.out.trans (h2.mono HB.out.size))
              have R2 := Lib.hid (MineR.below HR.out h2 (fun g hg => (MineR.lt HR.out g hg).2))
              clear h2
              have HM := Lib.hid (fun (o1 o2 : Obj) => (MineR.alloc R2.out o1).alloc o2)
              have hz2 := B2.out.size
              have HSB := Lib.hid (fun (o1 o2 : Obj) => show Below w.heap.size w ((w2.alloc o1).alloc o2) from (B2.out.alloc hz2 _).alloc (by simp; omega) _)
              go_wp2_with (at_builtin
                           refine wpList_append_rws ((w2.alloc (.cells #[.int .i64 f.k, .bool f.f] 57)).alloc (.cells #[.int .i64 f.k, .bool f.f] 57)) rfl (.tmp 37) (.tmp 39) _ rfl Tryd.underlying22 info_rfd rfl (by decide) w.heap.size (.slice Ar n cr) n _ rfl (HM.out _ _) ⟨w2.heap.size + 1, 0, none⟩ 1 (fcs f) rfl rfl (by have := two_cells (w := w2.alloc (.cells #[.int .i64 f.k, .bool f.f] 57)) (t := 57) (a := .int .i64 f.k) (b := .bool f.f); rwa [World.size_alloc] at this) (by intro u hu; simp [fcs] at hu; rcases hu with rfl | rfl <;> rfl) (by omega) (by unfold maxLen; omega) (by simp; omega) ?_
                           intro v4 w4 hm4 hg4 _
                           have M4 := Lib.hid (FRow.snoc hm4)
                           have C4 := Lib.hid (below_mine (HSB.out _ _) (HM.out _ _) hg4 (Nat.le_refl _) (by simp; omega))
                           clear hm4 hg4)
              go_wp2
              exact ⟨⟨i + 1, i + 1, ds ++ [f], n + 1, by omega, by go_num, by go_num, by omega, by omega, Lib.hid (.inl ⟨by omega, by omega, HS.out, fun j a b => by omega⟩), M4, C4⟩, by simp [intOf]; omega⟩
          · have h45 : ((u.toNat : Int) != 44) = true := by
              rw [bne_iff_ne]
              intro q
              have q2 : u.toNat = (44 : UInt8).toNat := by show u.toNat = 44; omega
              exact h44 (UInt8.toNat_inj.1 q2)
            go_wp2
            exact ⟨⟨from_, i + 1, ds, n, by omega, rfl, by go_num, by omega, by omega, Lib.hid (.inl ⟨by omega, by omega, HP.out, fun j a b => by
              by_cases q : j = i
              · subst q; rw [HU.out]; intro q2; injection q2 with q2; exact h44 q2
              · exact HNO.out j a (by omega)⟩), HR, HB⟩, by simp [intOf]; omega⟩
        · obtain rfl : i = l.length := by omega
          have hi1 : ((l.length : Nat) : Int) ≤ ((bst l).size : Int) := by omega
          have hi2 : ¬ ((l.length : Nat) : Int) < ((bst l).size : Int) := by omega
          have HTK := Lib.hid (show (l.drop from_).take (l.length - from_) = l.drop from_ from List.take_of_length_le (by simp))
          have hex : (bst l).extract from_ l.length = bst ((l.drop from_).take (l.length - from_)) := by rw [Lib.extract_eq, bst_toList]; rfl
          have hb1 : (from_ : Int) ≤ ((l.length : Nat) : Int) := by omega
          have hb2 : ((l.length : Nat) : Int) ≤ ((bst l).size : Int) := by omega
          have hpart : comma (l.drop from_) = none := scan_stop HNO.out
          rcases hpf : parseF ((l.drop from_).take (l.length - from_)) with _ | f
          · have HPF := Lib.hid (fun V => (one_any ((l.drop from_).take (l.length - from_)) V).mono fun _ _ q => q.none_ hpf)
            have HE := Lib.hid (prs_bad HL.out (HP.out.badLast hpart (by rw [← HTK.out]; exact hpf)))
            clear hpf
            go_wp2_with fail
            (with_reducible refine (HPF.out _).mono ?_)
            rintro e w2 ⟨⟨k, d, rfl⟩, h2⟩
            have B2 := Lib.hid (HB.out.trans (h2.mono HB.out.size))
            clear h2
            go_wp2
            go_ret2
            exact PrPost.no ⟨HE.out.1.symm, HE.out.2.symm⟩ (B2.out.alloc B2.out.size _)
          · have HPF := Lib.hid (fun V => (one_any ((l.drop from_).take (l.length - from_)) V).mono fun _ _ q => q.some_ hpf)
            have HS := Lib.hid (show PAt l (ds ++ [f]) none from HP.out.last hpart (by rw [← HTK.out]; exact hpf))
            clear hpf
            go_wp2_with fail
            (with_reducible refine (HPF.out _).mono ?_)
            rintro e w2 ⟨rfl, h2⟩
            have B2 := Lib.hid (HB.out.trans (h2.mono HB.out.size))
            have R2 := Lib.hid (MineR.below HR.out h2 (fun g hg => (MineR.lt HR.out g hg).2))
            clear h2
            have HM := Lib.hid (fun (o1 o2 : Obj) => (MineR.alloc R2.out o1).alloc o2)
            have hz2 := B2.out.size
            have HSB := Lib.hid (fun (o1 o2 : Obj) => show Below w.heap.size w ((w2.alloc o1).alloc o2) from (B2.out.alloc hz2 _).alloc (by simp; omega) _)
            go_wp2_with (at_builtin
                         refine wpList_append_rws ((w2.alloc (.cells #[.int .i64 f.k, .bool f.f] 57)).alloc (.cells #[.int .i64 f.k, .bool f.f] 57)) rfl (.tmp 37) (.tmp 39) _ rfl Tryd.underlying22 info_rfd rfl (by decide) w.heap.size (.slice Ar n cr) n _ rfl (HM.out _ _) ⟨w2.heap.size + 1, 0, none⟩ 1 (fcs f) rfl rfl (by have := two_cells (w := w2.alloc (.cells #[.int .i64 f.k, .bool f.f] 57)) (t := 57) (a := .int .i64 f.k) (b := .bool f.f); rwa [World.size_alloc] at this) (by intro u hu; simp [fcs] at hu; rcases hu with rfl | rfl <;> rfl) (by omega) (by unfold maxLen; omega) (by simp; omega) ?_
                         intro v4 w4 hm4 hg4 _
                         have M4 := Lib.hid (FRow.snoc hm4)
                         have C4 := Lib.hid (below_mine (HSB.out _ _) (HM.out _ _) hg4 (Nat.le_refl _) (by simp; omega))
                         clear hm4 hg4)
            go_wp2
            exact ⟨⟨l.length + 1, l.length + 1, ds ++ [f], n + 1, by omega, by go_num, by go_num, by omega, by omega, Lib.hid (.inr ⟨rfl, HS.out⟩), M4, C4⟩, by simp [intOf]⟩
      · obtain rfl : i = l.length + 1 := by omega
        have HP := Lib.hid (by rcases HA.out with q | q; omega; exact q.2 : PAt l ds none)
        have HPE := Lib.hid (show PEnd l ds from .inr ⟨HL.out, HP.out⟩)
        have hdl : ds.length = n := by have := HR.out.2.1; rwa [List.length_map] at this
        by_cases hd : 255 < n
        · have HD := Lib.hid (show 255 < ds.length from by omega)
          clear hdl
          go_wp2
          go_ret2
          exact PrPost.no (by obtain ⟨q1, q2⟩ := HPE.out.many HD.out; exact ⟨q1.symm, q2.symm⟩) HB.out
        · have HD := Lib.hid (show ¬ 255 < ds.length from by omega)
          clear hdl
          go_wp2
          go_ret2
          obtain ⟨q1, q2⟩ := HPE.out.ok HD.out
          exact ⟨Ar, n, cr, by rw [q1]; rfl, by rw [q2]; exact MineR.rws HR.out, hcr, HB.out⟩
end Go.Proofs.YtdpddkpfllioiaaDoor
