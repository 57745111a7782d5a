/-
  The document's Sort: pairs that rise, of each key the last one's value.
-/
import Derived.Test.YtajpipaooaemdaaGreatDoorCnLaw
import Derived.Test.YtajpipaooaemdaaGreatDoorBuild
namespace Go.Proofs.YtajpipaooaemdaaGreatDoor
open Go.RowKit

theorem lt_or : ∀ a x : List UInt8, cmpL a x < 0 ∨ a = x ∨ cmpL x a < 0
  | [], [] => .inr (.inl rfl)
  | [], _ :: _ => .inl (by simp [cmpL])
  | _ :: _, [] => .inr (.inr (by simp [cmpL]))
  | a :: l, b :: m => by
    rcases Nat.lt_trichotomy a.toNat b.toNat with h | h | h
    · exact .inl (lt_cons.2 (.inl h))
    · have hab : a = b := UInt8.toNat_inj.1 h
      subst hab
      rcases lt_or l m with q | q | q
      · exact .inl (lt_cons.2 (.inr ⟨rfl, q⟩))
      · exact .inr (.inl (by rw [q]))
      · exact .inr (.inr (lt_cons.2 (.inr ⟨rfl, q⟩)))
    · exact .inr (.inr (lt_cons.2 (.inl h)))
abbrev Rsn (ps : List PV) : Prop := ps.Pairwise fun a b => cmpL a.key b.key < 0
def posS (x : List UInt8) (out : List PV) : Nat := (out.takeWhile fun p => decide (cmpL p.key x < 0)).length
def insS (x : PV) (out : List PV) : List PV :=
  match out[posS x.key out]? with
  | some y => if y.key = x.key then out.set (posS x.key out) { y with val := x.val } else out.take (posS x.key out) ++ x :: out.drop (posS x.key out)
  | none => out.take (posS x.key out) ++ x :: out.drop (posS x.key out)
def sortS (l : List PV) : List PV := l.foldl (fun o x => insS x o) []
theorem posS_of {x : List UInt8} : ∀ {out : List PV} {j : Nat}, j ≤ out.length → (∀ i y, i < j → out[i]? = some y → cmpL y.key x < 0) → (∀ y, out[j]? = some y → ¬ cmpL y.key x < 0) → posS x out = j
  | [], j, h, _, _ => by simp at h; subst h; rfl
  | a :: out, 0, _, _, h3 => by
    have := h3 a rfl
    simp [posS, this]
  | a :: out, j + 1, h1, h2, h3 => by
    have ha := h2 0 a (by omega) rfl
    have ih := posS_of (x := x) (out := out) (j := j) (by simpa using h1) (fun i y hi hy => h2 (i + 1) y (by omega) (by simpa using hy)) (fun y hy => h3 y (by simpa using hy))
    unfold posS at ih ⊢
    simp [ha, ih]
theorem posS_split (x : List UInt8) (out : List PV) : (∀ y ∈ out.take (posS x out), cmpL y.key x < 0) ∧ (∀ y, out[posS x out]? = some y → ¬ cmpL y.key x < 0) := by
  unfold posS
  induction out with
  | nil => exact ⟨fun y hy => (by simp at hy), fun y hy => (by simp at hy)⟩
  | cons a out ih =>
    by_cases h : cmpL a.key x < 0
    · simp only [List.takeWhile_cons, h, decide_true, if_true, List.length_cons, List.take_succ_cons, List.mem_cons, List.getElem?_cons_succ]
      exact ⟨fun y hy => hy.elim (fun e => e ▸ h) (ih.1 y), ih.2⟩
    · simp only [List.takeWhile_cons, h, decide_false, Bool.false_eq_true, if_false, List.length_nil, List.take_zero]
      exact ⟨fun y hy => (by cases hy), fun y hy => by simp at hy; subst hy; exact h⟩
theorem ins_rise {out : List PV} {x : PV} (h : Rsn out) (hne : ∀ y, out[posS x.key out]? = some y → y.key ≠ x.key) : Rsn (out.take (posS x.key out) ++ x :: out.drop (posS x.key out)) := by
  obtain ⟨h1, h2⟩ := posS_split x.key out
  have hs : Rsn (out.take (posS x.key out) ++ out.drop (posS x.key out)) := by rw [List.take_append_drop]; exact h
  obtain ⟨s1, s2, s3⟩ := List.pairwise_append.1 hs
  have hx : ∀ b ∈ out.drop (posS x.key out), cmpL x.key b.key < 0 := by
    intro b hb
    rcases hd : out.drop (posS x.key out) with _ | ⟨y, r⟩
    · rw [hd] at hb; cases hb
    · have hy : out[posS x.key out]? = some y := by
        have : (out.drop (posS x.key out))[0]? = some y := by rw [hd]; rfl
        rwa [List.getElem?_drop, Nat.add_zero] at this
      have hxy : cmpL x.key y.key < 0 := by
        rcases lt_or y.key x.key with q | q | q
        · exact absurd q (h2 y hy)
        · exact absurd q (hne y hy)
        · exact q
      rw [hd] at hb s2
      rcases List.mem_cons.1 hb with rfl | hb
      · exact hxy
      · exact lt_trans hxy ((List.pairwise_cons.1 s2).1 b hb)
  refine List.pairwise_append.2 ⟨s1, List.pairwise_cons.2 ⟨hx, s2⟩, fun a ha b hb => ?_⟩
  rcases List.mem_cons.1 hb with rfl | hb
  · exact h1 a ha
  · exact s3 a ha b hb
theorem insS_rise {out : List PV} {x : PV} (h : Rsn out) : Rsn (insS x out) := by
  unfold insS
  split
  · rename_i y hy
    split
    · rename_i hk
      have e : (out.set (posS x.key out) { y with val := x.val }).map PV.key = out.map PV.key := by
        rw [List.map_set]
        have : (out.map PV.key)[posS x.key out]? = some y.key := by rw [List.getElem?_map, hy]; rfl
        obtain ⟨hl, he⟩ := List.getElem?_eq_some_iff.1 this
        exact List.ext_getElem (by simp) (fun i h1 h2 => by
          rw [List.getElem_set]
          split
          · rename_i e; subst e; exact he.symm
          · rfl)
      have h1 : (out.map PV.key).Pairwise fun a b => cmpL a b < 0 := by rw [List.pairwise_map]; exact h
      rw [← e, List.pairwise_map] at h1
      exact h1
    · rename_i hk
      exact ins_rise h (fun z hz => by rw [hy] at hz; injection hz with hz; subst hz; exact hk)
  · rename_i hy
    exact ins_rise h (fun z hz => by rw [hy] at hz; cases hz)
theorem insS_all {P : PV → Prop} (hP : ∀ y x : PV, P y → P x → P { y with val := x.val }) {out : List PV} {x : PV} (h : ∀ p ∈ out, P p) (hx : P x) : ∀ p ∈ insS x out, P p := by
  intro p hp
  have hins : p ∈ out.take (posS x.key out) ++ x :: out.drop (posS x.key out) → P p := fun hp => by
    rcases List.mem_append.1 hp with q | q
    · exact h p (List.mem_of_mem_take q)
    · rcases List.mem_cons.1 q with rfl | q
      · exact hx
      · exact h p (List.mem_of_mem_drop q)
  unfold insS at hp
  split at hp
  · rename_i y hy
    split at hp
    · rcases List.mem_or_eq_of_mem_set hp with q | q
      · exact h p q
      · rw [q]; exact hP y x (h y (List.mem_of_getElem? hy)) hx
    · exact hins hp
  · exact hins hp
theorem insS_len (x : PV) (out : List PV) : (insS x out).length ≤ out.length + 1 ∧ 1 ≤ (insS x out).length := by
  have hins : (out.take (posS x.key out) ++ x :: out.drop (posS x.key out)).length = out.length + 1 := by
    rw [List.length_append, List.length_cons, List.length_take, List.length_drop]
    omega
  unfold insS
  split
  · rename_i y hy
    have := (List.getElem?_eq_some_iff.1 hy).1
    split
    · rw [List.length_set]; omega
    · rw [hins]; omega
  · rw [hins]; omega
theorem sortS_snoc (l : List PV) (x : PV) : sortS (l ++ [x]) = insS x (sortS l) := by simp [sortS]
theorem sort_ind {Q : List PV → List PV → Prop} (h0 : Q [] []) (hs : ∀ l x o, Q l o → Q (l ++ [x]) (insS x o)) (l : List PV) : Q l (sortS l) := by
  have : ∀ (n : Nat) (l : List PV), l.length = n → Q l (sortS l) := by
    intro n
    induction n with
    | zero => intro l hl; rw [List.eq_nil_of_length_eq_zero hl]; exact h0
    | succ n ih =>
      intro l hl
      have hne : l ≠ [] := fun q => by rw [q] at hl; simp at hl
      have e := List.dropLast_concat_getLast hne
      rw [← e, sortS_snoc]
      exact hs _ _ _ (ih _ (by rw [List.length_dropLast]; omega))
  exact this l.length l rfl
theorem sortS_rise (l : List PV) : Rsn (sortS l) := sort_ind (Q := fun _ o => Rsn o) List.Pairwise.nil (fun _ _ _ h => insS_rise h) l
theorem sortS_len (l : List PV) : (sortS l).length ≤ l.length ∧ (l ≠ [] → 1 ≤ (sortS l).length) :=
  sort_ind (Q := fun l o => o.length ≤ l.length ∧ (l ≠ [] → 1 ≤ o.length)) ⟨Nat.le_refl _, fun h => absurd rfl h⟩ (fun l x o h => by
    have := insS_len x o
    refine ⟨by rw [List.length_append, List.length_singleton]; omega, fun _ => this.2⟩) l
theorem sortS_all {P : PV → Prop} (hP : ∀ y x : PV, P y → P x → P { y with val := x.val }) {l : List PV} (h : ∀ p ∈ l, P p) : ∀ p ∈ sortS l, P p :=
  sort_ind (Q := fun l o => (∀ p ∈ l, P p) → ∀ p ∈ o, P p) (fun _ p hp => by cases hp) (fun l x o ih h => insS_all hP (ih fun p hp => h p (List.mem_append_left _ hp)) (h x (by simp))) l h
theorem Kps.sort {w : World} {B : Nat} {ps : List PV} (h : Kps w B ps) : Kps w B (sortS ps) := sortS_all (P := fun p => Byt w B p.A p.n p.key ∧ p.n ≤ p.c) (fun _ _ hy _ => hy) h
theorem take_succ_at {ps : List PV} {k : Nat} {p : PV} (h : ps[k]? = some p) : ps.take (k + 1) = ps.take k ++ [p] := by rw [List.take_add_one, h]; rfl

theorem place_set {α : Type} (L : List α) (z v : α) {t : Nat} (ht : t ≤ L.length) : (L.take t ++ [z] ++ L.drop t).set t v = L.take t ++ v :: L.drop t := by
  have hl : (L.take t).length = t := by rw [List.length_take]; omega
  rw [List.append_assoc, List.set_append_right _ _ (by omega), hl, Nat.sub_self]
  rfl
theorem shift_set {α : Type} (L : List α) (z : α) {v : α} {t : Nat} (hv : L[t]? = some v) : (L.take (t + 1) ++ [z] ++ L.drop (t + 1)).set (t + 1) v = L.take t ++ [v] ++ L.drop t := by
  obtain ⟨hl, he⟩ := List.getElem?_eq_some_iff.1 hv
  rw [place_set L z v (by omega), List.take_add_one, hv, List.drop_eq_getElem_cons hl, he]
  simp
theorem MineR.form {w : World} {base : Nat} {e : TypeId} {A : Option Addr} {k n c : Nat} {css : List (List Value)} (h : MineR w base e k (.slice A n c) n css) (hn : 0 < n) : ∃ g, A = some ⟨g, 0, none⟩ ∧ base ≤ g := by
  rcases h.1.2 with ⟨_, h0⟩ | ⟨g, cap, cur, hv, h1, _⟩
  · omega
  · injection hv with hv
    exact ⟨g, hv, h1⟩
theorem MineR.set1 {w : World} {base : Nat} {e : TypeId} {g n c : Nat} {css : List (List Value)} (h : MineR w base e 2 (.slice (some ⟨g, 0, none⟩) n c) n css) {j : Nat} {a b : Value} (hj : css[j]? = some [a, b]) (b' : Value) :
    MineR (w.setCell ⟨g, j * 2 + 1, none⟩ b') base e 2 (.slice (some ⟨g, 0, none⟩) n c) n (css.set j [a, b']) ∧ Kept (· = g) w (w.setCell ⟨g, j * 2 + 1, none⟩ b') := by
  have s1 := h.1.stored (j * 2 + 1) b'
  have hjl := (List.getElem?_eq_some_iff.1 hj).1
  refine ⟨⟨?_, by simp [h.2.1], fun d hd => ?_⟩, Kept.set_ w ⟨g, j * 2 + 1, none⟩ b' rfl⟩
  · rw [set_flat2 h.2.2 hjl]
    have e0 : css.flatten.set (j * 2) a = css.flatten := by
      have h0 : css.flatten[j * 2]? = some a := by
        have := flatten_at h.2.2 hj (i := 0) (by omega)
        simpa using this
      obtain ⟨hl, he⟩ := List.getElem?_eq_some_iff.1 h0
      rw [← he]
      exact List.set_getElem_self hl
    rw [e0]
    exact s1.1
  · rcases List.mem_or_eq_of_mem_set hd with q | q
    · exact h.2.2 d q
    · rw [q]; rfl
set_option maxRecDepth 100000 in
theorem info_kpair : (Tryz.prog.info? 53).map (fun i => (i.zero, i.size, i.bytes)) = some (some (.agg #[.slice none 0 0, .int .u64 0]), 2, 32) := by kernel_rfl
theorem MineR.still {w w' : World} {base : Nat} {e : TypeId} {k n : Nat} {v : Value} {css : List (List Value)} (h : MineR w base e k v n css) (hs : Still w w') : MineR w' base e k v n css := by
  obtain ⟨q, rfl⟩ := hs
  exact h.drewN q

set_option maxRecDepth 100000 in
set_option maxHeartbeats 4000000 in
theorem rsort_any (A : Option Addr) (n c B : Nat) (ps : List PV) (w : World) (ha : Prs w B A n ps) (hk : Kps w B ps) (hB : B ≤ w.heap.size) (hn : n ≤ 4000) :
    Calls Tryz.prog 8 #[.slice A n c] w fun e w' => ∃ A' c', e = .returned (.slice A' (sortS ps).length c') ∧ (sortS ps).length ≤ c' ∧ Prs w' w'.heap.size A' (sortS ps).length (sortS ps) ∧ (∀ ad, A' = some ad → 0 < (sortS ps).length → w.heap.size ≤ ad.block) ∧ Below w.heap.size w w' := by
  have HA := Lib.hid (fun V (h : Below w.heap.size w V) => ((ha.more hB).below h).more h.size)
  have HK := Lib.hid (fun V (h : Below w.heap.size w V) => ((hk.more hB).below h).more h.size)
  have HN := Lib.hid ha.1
  clear ha hk
  go_enter Tryz.func8, Tryz.ntmps8
  go_wp2
  go_loopw [3, 4] (fun v i wr => ∃ k : Nat, k ≤ n ∧ i = .int .i64 k ∧ Hid (PRow wr w.heap.size 53 v (sortS (ps.take k)).length (sortS (ps.take k))) ∧ Hid (Below w.heap.size w wr)) (fun _ i _ => n - (intOf i).toNat)
  case atStart => exact ⟨0, Nat.zero_le _, rfl, Lib.hid (MineR.nil _ _ _ _), Lib.hid (Below.refl _ _)⟩
  case round =>
    obtain ⟨k, hk, rfl, HR, HB⟩ := hrel
    by_cases h1 : k < n
    · obtain ⟨ad, x, rfl, hlt, e1, c1, c2, bx⟩ := (HA.out _ HB.out).at_ h1
      obtain ⟨out, ho⟩ : ∃ o, sortS (ps.take k) = o := ⟨_, rfl⟩
      have hnext : sortS (ps.take (k + 1)) = insS x out := by rw [take_succ_at e1, sortS_snoc, ho]
      have HNX := Lib.hid hnext
      have HX1 := Lib.hid e1
      have hko : Kps wr wr.heap.size out := by
        rw [← ho]
        exact (Kps.sort (fun p hp => HK.out _ HB.out p (List.mem_of_mem_take hp)))
      rw [ho] at HR
      have hm300 : out.length ≤ 4000 := by
        have := (sortS_len (ps.take k)).1
        rw [ho, List.length_take] at this
        omega
      obtain ⟨m, hm⟩ : ∃ m, out.length = m := ⟨_, rfl⟩
      rw [hm] at HR hm300
      have HM := Lib.hid hm
      obtain ⟨A1, cp1, rfl, hcp⟩ := MineR.slice HR.out
      have hpo : Prs wr wr.heap.size A1 m out := PRow.prs HR.out hko
      have HPO := Lib.hid hpo
      have HBX := Lib.hid bx
      rw [← add_of_add] at c2
      have c2' : wr.cell? ⟨(ad.add (k * 2)).block, (ad.add (k * 2)).off + 1, none⟩ = some (.int .u64 x.val) := c2
      have ik : (k : Int) < (n : Int) := by omega
      clear e1 bx hpo hko hnext ho hm c2
      go_wp2
      go_loopw [5] (fun j wq => ∃ jj : Nat, jj ≤ m ∧ j = .int .i64 jj ∧ Hid (∀ i y, i < jj → out[i]? = some y → cmpL y.key x.key < 0) ∧ Still wr wq) (fun j _ => m - (intOf j).toNat)
      case atStart => exact ⟨0, Nat.zero_le _, rfl, Lib.hid (fun i y hi => by omega), Still.refl _⟩
      case round =>
        obtain ⟨jj, hjm, rfl, HJ, q, rfl⟩ := hrel
        by_cases hj : jj < m
        · obtain ⟨ad1, y, rfl, _, f1, d1, d2, by_⟩ := HPO.out.at_ hj
          have HF1 := Lib.hid f1
          have HBY := Lib.hid by_
          rw [← add_of_add] at d2
          have d2' : wr.cell? ⟨(ad1.add (jj * 2)).block, (ad1.add (jj * 2)).off + 1, none⟩ = some (.int .u64 y.val) := d2
          have ij : (jj : Int) < (m : Int) := by omega
          clear f1 by_ d2
          by_cases hc : cmpL y.key x.key < 0
          · have hdc : decide (cmpL y.key x.key < 0) = true := decide_eq_true hc
            go_wp2_with fail
            go_quiet ((go_at_call 22; exact quiet_st2 (rcmp_any _ _ _ _ _ _ wr.heap.size y.key x.key _ (HBY.out.drewN _) (HBX.out.drewN _))))
            have HJ1 := Lib.hid (show ∀ i z, i < jj + 1 → out[i]? = some z → cmpL z.key x.key < 0 from fun i z hi hz => by
              rcases Nat.lt_or_ge i jj with h | h
              · exact HJ.out i z h hz
              · have : i = jj := by omega
                subst this
                rw [HF1.out] at hz
                injection hz with hz
                subst hz
                exact hc)
            go_wp2
            exact ⟨⟨jj + 1, by omega, by go_num, HJ1, (by repeat (first | exact Still.refl _ | apply Still.step))⟩, by simp [intOf]; omega⟩
          · have hdc : decide (cmpL y.key x.key < 0) = false := decide_eq_false hc
            have HPS := Lib.hid (show posS x.key out = jj from posS_of (by have := HM.out; omega) HJ.out (fun z hz => by rw [HF1.out] at hz; injection hz with hz; subst hz; exact hc))
            go_wp2_with fail
            go_quiet ((go_at_call 22; exact quiet_st2 (rcmp_any _ _ _ _ _ _ wr.heap.size y.key x.key _ (HBY.out.drewN _) (HBX.out.drewN _))))
            go_wp2_with fail
            by_cases hs : y.key = x.key
            · have hsb : sameB y.key x.key = true := decide_eq_true hs
              have HSK := Lib.hid hs
              clear hs
              go_quiet ((go_at_call 23; exact quiet_st2 (rsame_any _ _ _ _ _ _ wr.heap.size y.key x.key _ (HBY.out.drewN _) (HBX.out.drewN _))))
              refine (?bodyA : ∀ V, Still wr V → Exit.then _ _ _ _ V) _ ?stA
              case stA => repeat (first | exact Still.refl _ | apply Still.step)
              intro V hV
              have HVW := Lib.hid (HB.out.trans (hV.below w.heap.size))
              have hrv := MineR.still HR.out hV
              obtain ⟨g, eg, hgb⟩ := MineR.form hrv (by omega)
              cases eg
              have hcell : (out.map pvc)[jj]? = some (pvc y) := by rw [List.getElem?_map, HF1.out]; rfl
              obtain ⟨t0, t1, t2, t3⟩ := MineR.there2 hrv hcell
              obtain ⟨r1, r2⟩ := MineR.set1 hrv hcell (.int .u64 x.val)
              have HINS := Lib.hid (show insS x out = out.set jj { y with val := x.val } from by
                unfold insS
                rw [HPS.out, HF1.out]
                exact if_pos HSK.out)
              have HF := Lib.hid (show PRow (V.setCell ⟨g, jj * 2 + 1, none⟩ (.int .u64 x.val)) w.heap.size 53 (.slice (some ⟨g, 0, none⟩) m cp1) (sortS (ps.take (k + 1))).length (sortS (ps.take (k + 1))) from by
                rw [HNX.out, HINS.out, List.length_set, HM.out]
                have e : (out.set jj { y with val := x.val }).map pvc = (out.map pvc).set jj [.slice y.A y.n y.c, .int .u64 x.val] := by rw [List.map_set]
                unfold PRow
                rw [e]
                exact r1)
              have HFB := Lib.hid (show Below w.heap.size w (V.setCell ⟨g, jj * 2 + 1, none⟩ (.int .u64 x.val)) from HVW.out.trans (r2.below HVW.out.size (fun i e => by omega)))
              have cx := ((HA.out V HVW.out).at_ h1)
              obtain ⟨ad', x', e', _, e1', _, cv', _⟩ := cx
              cases e'
              rw [HX1.out] at e1'
              injection e1' with e1'
              subst e1'
              rw [← add_of_add] at cv'
              have cv2 : V.cell? ⟨(ad.add (k * 2)).block, (ad.add (k * 2)).off + 1, none⟩ = some (.int .u64 x.val) := cv'
              clear r1 r2 hrv hcell cv' c1 c2' d1 d2'
              go_wp2_with fail
              exact ⟨⟨k + 1, by omega, by go_num, HF, HFB⟩, by simp [intOf]; omega⟩
            · have hsb : sameB y.key x.key = false := decide_eq_false hs
              go_quiet ((go_at_call 23; exact quiet_st2 (rsame_any _ _ _ _ _ _ wr.heap.size y.key x.key _ (HBY.out.drewN _) (HBX.out.drewN _))))
              go_upto_region 10 with fail
              have HNS := Lib.hid (show insS x out = out.take jj ++ x :: out.drop jj from by
                unfold insS
                rw [HPS.out, HF1.out]
                exact if_neg hs)
              have HVW' := True.intro
              refine (?bodyB : ∀ V, Still wr V → Code.wp _ _ _ _ V) _ ?stB
              case stB => repeat (first | exact Still.refl _ | apply Still.step)
              intro V hV
              have HVW := Lib.hid (HB.out.trans (hV.below w.heap.size))
              have HRV := Lib.hid (MineR.still HR.out hV)
              have hvs := HVW.out.size
              have HZC := Lib.hid (show ∀ (j : Nat) (u : Value), ([.slice none 0 0, .int .u64 0] : List Value)[j]? = some u → (V.alloc (.cells #[.slice none 0 0, .int .u64 0] 53)).cell? ((⟨V.heap.size, 0, none⟩ : Addr).add j) = some u from lit_cells (Blk.new V 53 #[.slice none 0 0, .int .u64 0]))
              clear hV HVW'
              go_wp2_with (at_builtin
                           refine wpList_append_rws (V.alloc (.cells #[.slice none 0 0, .int .u64 0] 53)) rfl (.tmp 59) (.tmp 61) _ rfl Tryz.underlying22 info_kpair (by rfl) (by decide) w.heap.size (.slice (some ad1) m cp1) m (out.map pvc) rfl (HRV.out.alloc _) ⟨V.heap.size, 0, none⟩ 1 [.slice none 0 0, .int .u64 0] rfl rfl HZC.out (by intro u hu; simp at hu; rcases hu with rfl | rfl <;> rfl) (by omega) (by unfold maxLen; omega) (by simp; omega) ?_
                           intro v2 w2 hm2 hg2 _
                           obtain ⟨A2, cp2, rfl, _⟩ := MineR.slice hm2
                           obtain ⟨g2, eg2, hg2b⟩ := MineR.form hm2 (by omega)
                           cases eg2
                           have M2 := Lib.hid hm2
                           have C2 := Lib.hid (below_grown (HVW.out.alloc HVW.out.size _) (HRV.out.alloc _) hg2 (Nat.le_refl _) (by simp; omega))
                           clear hm2 hg2)
              go_wp2
              go_loopw [6] (fun kk wq => ∃ t : Nat, jj ≤ t ∧ t ≤ m ∧ kk = .int .i64 t ∧ Hid (∃ a b, MineR wq w.heap.size 53 2 (.slice (some ⟨g2, 0, none⟩) (m + 1) cp2) (m + 1) ((out.map pvc).take t ++ [[a, b]] ++ (out.map pvc).drop t)) ∧ Hid (Below w.heap.size w wq)) (fun kk _ => (intOf kk).toNat - jj)
              case atStart => exact ⟨m, hjm, Nat.le_refl _, by go_num, Lib.hid ⟨_, _, by rw [List.take_of_length_le (by simp [HM.out]), List.drop_of_length_le (by simp [HM.out]), List.append_nil]; exact M2.out⟩, C2⟩
              case round =>
                obtain ⟨t, hjt, htm, rfl, HQ, HQB⟩ := hrel
                have hQB := HQB.out.size
                have hlo : (out.map pvc).length = m := by rw [List.length_map]; exact HM.out
                by_cases hlt : jj < t
                · obtain ⟨t', rfl⟩ : ∃ t', t = t' + 1 := ⟨t - 1, by omega⟩
                  obtain ⟨za, zb, hq⟩ := HQ.out
                  obtain ⟨yy, hyy⟩ : ∃ yy, out[t']? = some yy := ⟨out[t']'(by have := HM.out; omega), List.getElem?_eq_getElem _⟩
                  have hL : (out.map pvc)[t']? = some (pvc yy) := by rw [List.getElem?_map, hyy]; rfl
                  have hat : ((out.map pvc).take (t' + 1) ++ [[za, zb]] ++ (out.map pvc).drop (t' + 1))[t']? = some (pvc yy) := by
                    rw [List.append_assoc, List.getElem?_append_left (by rw [List.length_take]; omega), List.getElem?_take, if_pos (by omega)]
                    exact hL
                  have hat2 : ((out.map pvc).take (t' + 1) ++ [[za, zb]] ++ (out.map pvc).drop (t' + 1))[t' + 1]? = some [za, zb] := by
                    rw [List.append_assoc, List.getElem?_append_right (by rw [List.length_take]; omega), List.length_take, Nat.min_eq_left (by omega), Nat.sub_self]
                    rfl
                  obtain ⟨u0, u1, _, _⟩ := MineR.there2 hq hat
                  obtain ⟨v0, v1, v2, v3⟩ := MineR.there2 hq hat2
                  obtain ⟨r1, r2⟩ := MineR.set2 hq (j := t' + 1) (by omega) (.slice yy.A yy.n yy.c) (.int .u64 yy.val)
                  rw [show ([.slice yy.A yy.n yy.c, .int .u64 yy.val] : List Value) = pvc yy from rfl, shift_set _ _ hL] at r1
                  have R1 := Lib.hid r1
                  have R2 := Lib.hid (HQB.out.trans (r2.below hQB (fun i e => by omega)))
                  clear r1 r2 hat hat2 hL hyy hq HQ
                  go_wp2
                  exact ⟨⟨t', by omega, by omega, by go_num, Lib.hid ⟨_, _, R1.out⟩, R2⟩, by simp [intOf]; omega⟩
                · obtain rfl : t = jj := by omega
                  obtain ⟨za, zb, hq⟩ := HQ.out
                  have hat2 : ((out.map pvc).take t ++ [[za, zb]] ++ (out.map pvc).drop t)[t]? = some [za, zb] := by
                    rw [List.append_assoc, List.getElem?_append_right (by rw [List.length_take]; omega), List.length_take, Nat.min_eq_left (by omega), Nat.sub_self]
                    rfl
                  obtain ⟨v0, v1, v2, v3⟩ := MineR.there2 hq hat2
                  obtain ⟨r1, r2⟩ := MineR.set2 hq (j := t) (by omega) (.slice x.A x.n x.c) (.int .u64 x.val)
                  rw [show ([.slice x.A x.n x.c, .int .u64 x.val] : List Value) = pvc x from rfl, place_set _ _ _ (by omega)] at r1
                  have cx := (HA.out wr HQB.out).at_ h1
                  obtain ⟨ad', x', e', _, e1', cu', cv', _⟩ := cx
                  cases e'
                  rw [HX1.out] at e1'
                  injection e1' with e1'
                  subst e1'
                  rw [← add_of_add] at cv'
                  have cv2 : wr.cell? ⟨(ad.add (k * 2)).block, (ad.add (k * 2)).off + 1, none⟩ = some (.int .u64 x.val) := cv'
                  have HF := Lib.hid (show PRow ((wr.setCell ⟨g2, t * 2, none⟩ (.slice x.A x.n x.c)).setCell ⟨g2, t * 2 + 1, none⟩ (.int .u64 x.val)) w.heap.size 53 (.slice (some ⟨g2, 0, none⟩) (m + 1) cp2) (sortS (ps.take (k + 1))).length (sortS (ps.take (k + 1))) from by
                    rw [HNX.out, HNS.out]
                    have e : (out.take t ++ x :: out.drop t).map pvc = (out.map pvc).take t ++ pvc x :: (out.map pvc).drop t := by rw [List.map_append, List.map_cons, List.map_take, List.map_drop]
                    have e2 : (out.take t ++ x :: out.drop t).length = m + 1 := by rw [List.length_append, List.length_cons, List.length_take, List.length_drop]; have := HM.out; omega
                    unfold PRow
                    rw [e, e2]
                    exact r1)
                  have HFB := Lib.hid (HQB.out.trans (r2.below hQB (fun i e => by omega)))
                  clear r1 r2 hat2 hq HQ cv'
                  go_wp2
                  exact ⟨⟨k + 1, by omega, by go_num, HF, HFB⟩, by simp [intOf]; omega⟩
        · have hje : jj = m := by omega
          have d0 : decide (jj < m) = false := decide_eq_false hj
          have HNS := Lib.hid (show insS x out = out.take jj ++ x :: out.drop jj from by
            have hnone : out[jj]? = none := List.getElem?_eq_none (by have := HM.out; omega)
            unfold insS
            rw [posS_of (by have := HM.out; omega) HJ.out (fun z hz => by rw [hnone] at hz; cases hz), hnone])
          clear hj hje
          go_wp2_with fail
          go_quiet (fail)
          go_wp2_with fail
          go_quiet (fail)
          go_upto_region 10 with fail
          have HVW' := True.intro
          refine (?bodyC : ∀ V, Still wr V → Code.wp _ _ _ _ V) _ ?stC
          case stC => repeat (first | exact Still.refl _ | apply Still.step)
          intro V hV
          have HVW := Lib.hid (HB.out.trans (hV.below w.heap.size))
          have HRV := Lib.hid (MineR.still HR.out hV)
          have hvs := HVW.out.size
          have HZC := Lib.hid (show ∀ (j : Nat) (u : Value), ([.slice none 0 0, .int .u64 0] : List Value)[j]? = some u → (V.alloc (.cells #[.slice none 0 0, .int .u64 0] 53)).cell? ((⟨V.heap.size, 0, none⟩ : Addr).add j) = some u from lit_cells (Blk.new V 53 #[.slice none 0 0, .int .u64 0]))
          clear hV HVW'
          go_wp2_with (at_builtin
                       refine wpList_append_rws (V.alloc (.cells #[.slice none 0 0, .int .u64 0] 53)) rfl (.tmp 59) (.tmp 61) _ rfl Tryz.underlying22 info_kpair (by rfl) (by decide) w.heap.size (.slice A1 m cp1) m (out.map pvc) rfl (HRV.out.alloc _) ⟨V.heap.size, 0, none⟩ 1 [.slice none 0 0, .int .u64 0] rfl rfl HZC.out (by intro u hu; simp at hu; rcases hu with rfl | rfl <;> rfl) (by omega) (by unfold maxLen; omega) (by simp; omega) ?_
                       intro v2 w2 hm2 hg2 _
                       obtain ⟨A2, cp2, rfl, _⟩ := MineR.slice hm2
                       obtain ⟨g2, eg2, hg2b⟩ := MineR.form hm2 (by omega)
                       cases eg2
                       have M2 := Lib.hid hm2
                       have C2 := Lib.hid (below_grown (HVW.out.alloc HVW.out.size _) (HRV.out.alloc _) hg2 (Nat.le_refl _) (by simp; omega))
                       clear hm2 hg2)
          go_wp2
          go_loopw [6] (fun kk wq => ∃ t : Nat, jj ≤ t ∧ t ≤ m ∧ kk = .int .i64 t ∧ Hid (∃ a b, MineR wq w.heap.size 53 2 (.slice (some ⟨g2, 0, none⟩) (m + 1) cp2) (m + 1) ((out.map pvc).take t ++ [[a, b]] ++ (out.map pvc).drop t)) ∧ Hid (Below w.heap.size w wq)) (fun kk _ => (intOf kk).toNat - jj)
          case atStart => exact ⟨m, hjm, Nat.le_refl _, by go_num, Lib.hid ⟨_, _, by rw [List.take_of_length_le (by simp [HM.out]), List.drop_of_length_le (by simp [HM.out]), List.append_nil]; exact M2.out⟩, C2⟩
          case round =>
            obtain ⟨t, hjt, htm, rfl, HQ, HQB⟩ := hrel
            have hQB := HQB.out.size
            have hlo : (out.map pvc).length = m := by rw [List.length_map]; exact HM.out
            by_cases hlt : jj < t
            · obtain ⟨t', rfl⟩ : ∃ t', t = t' + 1 := ⟨t - 1, by omega⟩
              obtain ⟨za, zb, hq⟩ := HQ.out
              obtain ⟨yy, hyy⟩ : ∃ yy, out[t']? = some yy := ⟨out[t']'(by have := HM.out; omega), List.getElem?_eq_getElem _⟩
              have hL : (out.map pvc)[t']? = some (pvc yy) := by rw [List.getElem?_map, hyy]; rfl
              have hat : ((out.map pvc).take (t' + 1) ++ [[za, zb]] ++ (out.map pvc).drop (t' + 1))[t']? = some (pvc yy) := by
                rw [List.append_assoc, List.getElem?_append_left (by rw [List.length_take]; omega), List.getElem?_take, if_pos (by omega)]
                exact hL
              have hat2 : ((out.map pvc).take (t' + 1) ++ [[za, zb]] ++ (out.map pvc).drop (t' + 1))[t' + 1]? = some [za, zb] := by
                rw [List.append_assoc, List.getElem?_append_right (by rw [List.length_take]; omega), List.length_take, Nat.min_eq_left (by omega), Nat.sub_self]
                rfl
              obtain ⟨u0, u1, _, _⟩ := MineR.there2 hq hat
              obtain ⟨v0, v1, v2, v3⟩ := MineR.there2 hq hat2
              obtain ⟨r1, r2⟩ := MineR.set2 hq (j := t' + 1) (by omega) (.slice yy.A yy.n yy.c) (.int .u64 yy.val)
              rw [show ([.slice yy.A yy.n yy.c, .int .u64 yy.val] : List Value) = pvc yy from rfl, shift_set _ _ hL] at r1
              have R1 := Lib.hid r1
              have R2 := Lib.hid (HQB.out.trans (r2.below hQB (fun i e => by omega)))
              clear r1 r2 hat hat2 hL hyy hq HQ
              go_wp2
              exact ⟨⟨t', by omega, by omega, by go_num, Lib.hid ⟨_, _, R1.out⟩, R2⟩, by simp [intOf]; omega⟩
            · obtain rfl : t = jj := by omega
              obtain ⟨za, zb, hq⟩ := HQ.out
              have hat2 : ((out.map pvc).take t ++ [[za, zb]] ++ (out.map pvc).drop t)[t]? = some [za, zb] := by
                rw [List.append_assoc, List.getElem?_append_right (by rw [List.length_take]; omega), List.length_take, Nat.min_eq_left (by omega), Nat.sub_self]
                rfl
              obtain ⟨v0, v1, v2, v3⟩ := MineR.there2 hq hat2
              obtain ⟨r1, r2⟩ := MineR.set2 hq (j := t) (by omega) (.slice x.A x.n x.c) (.int .u64 x.val)
              rw [show ([.slice x.A x.n x.c, .int .u64 x.val] : List Value) = pvc x from rfl, place_set _ _ _ (by omega)] at r1
              have cx := (HA.out wr HQB.out).at_ h1
              obtain ⟨ad', x', e', _, e1', cu', cv', _⟩ := cx
              cases e'
              rw [HX1.out] at e1'
              injection e1' with e1'
              subst e1'
              rw [← add_of_add] at cv'
              have cv2 : wr.cell? ⟨(ad.add (k * 2)).block, (ad.add (k * 2)).off + 1, none⟩ = some (.int .u64 x.val) := cv'
              have HF := Lib.hid (show PRow ((wr.setCell ⟨g2, t * 2, none⟩ (.slice x.A x.n x.c)).setCell ⟨g2, t * 2 + 1, none⟩ (.int .u64 x.val)) w.heap.size 53 (.slice (some ⟨g2, 0, none⟩) (m + 1) cp2) (sortS (ps.take (k + 1))).length (sortS (ps.take (k + 1))) from by
                rw [HNX.out, HNS.out]
                have e : (out.take t ++ x :: out.drop t).map pvc = (out.map pvc).take t ++ pvc x :: (out.map pvc).drop t := by rw [List.map_append, List.map_cons, List.map_take, List.map_drop]
                have e2 : (out.take t ++ x :: out.drop t).length = m + 1 := by rw [List.length_append, List.length_cons, List.length_take, List.length_drop]; have := HM.out; omega
                unfold PRow
                rw [e, e2]
                exact r1)
              have HFB := Lib.hid (HQB.out.trans (r2.below hQB (fun i e => by omega)))
              clear r1 r2 hat2 hq HQ cv'
              go_wp2
              exact ⟨⟨k + 1, by omega, by go_num, HF, HFB⟩, by simp [intOf]; omega⟩
    · obtain rfl : k = n := by omega
      have hps : ps.take k = ps := List.take_of_length_le (by rw [HN.out]; exact Nat.le_refl _)
      rw [hps] at HR
      obtain ⟨A1, cp1, rfl, hc1⟩ := MineR.slice HR.out
      have HP := Lib.hid (show Prs wr wr.heap.size A1 (sortS ps).length (sortS ps) from PRow.prs HR.out (Kps.sort (HK.out _ HB.out)))
      have HG := Lib.hid (MineR.far HR.out)
      clear hps
      go_wp2
      go_ret
      exact ⟨A1, cp1, rfl, hc1, HP.out, HG.out, HB.out⟩
end Go.Proofs.YtajpipaooaemdaaGreatDoor
