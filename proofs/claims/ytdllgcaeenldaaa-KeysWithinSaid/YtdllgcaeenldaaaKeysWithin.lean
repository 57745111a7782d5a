/-
  Proved here: whether any key stands between any two, and whether any pairs rise, is told by keys.Within and keys.Sorted as the document says; nothing that came in is turned. No condition.
-/
import Derived.Test.YtdllgcaeenldaaaRowPairs
import Derived.Deep.RegionHeld3
namespace Go.Proofs.Ytdllgcaeenldaaa.keysWithin
open Go.ChangeShapes Go.WideShapes Go.ChangeAt Go.RowKit

theorem info_pair : (Try.prog.info? 44).map (fun i => (i.zero, i.size, i.bytes)) = some (some (.agg #[.slice none 0 0, .int .u64 0]), 2, 32) := by kernel_rfl

def pvCells (p : PV) : List Value := [.slice p.A p.n p.c, .int .u64 p.val]
def flat (ps : List PV) : List Value := ps.flatMap pvCells
theorem flat_length (ps : List PV) : (flat ps).length = ps.length * 2 := by
  induction ps with
  | nil => rfl
  | cons p r ih => simp only [flat, List.flatMap_cons, List.length_append, List.length_cons] at ih ⊢; simp only [pvCells, List.length_cons, List.length_nil]; omega
theorem flat_at {ps : List PV} {k : Nat} {p : PV} (h : ps[k]? = some p) : (flat ps)[k * 2]? = some (.slice p.A p.n p.c) ∧ (flat ps)[k * 2 + 1]? = some (.int .u64 p.val) := by
  induction ps generalizing k with
  | nil => simp at h
  | cons q r ih =>
    cases k with
    | zero => simp at h; subst h; exact ⟨rfl, rfl⟩
    | succ k =>
      have := ih (by simpa using h)
      have e : flat (q :: r) = .slice q.A q.n q.c :: .int .u64 q.val :: flat r := rfl
      rw [e, show (k + 1) * 2 = k * 2 + 1 + 1 from by omega]
      simpa using this
theorem flat_snoc {ps : List PV} {k : Nat} {p : PV} (h : ps[k]? = some p) : flat (ps.take (k + 1)) = flat (ps.take k) ++ pvCells p := by
  have hk : k < ps.length := (List.getElem?_eq_some_iff.1 h).1
  have e : ps[k] = p := (List.getElem?_eq_some_iff.1 h).2
  rw [List.take_succ_eq_append_getElem hk, e]
  simp [flat]

/-- A row of the call's own that holds the cells of ps reads as ps. -/
theorem prs_own {w : World} {base B k : Nat} {e : TypeId} {v : Value} {ps : List PV} {A : Option Addr} (h : w.ownsRow base e 2 v k (flat (ps.take k))) (hp : Prs w B A k ps) (hB : B ≤ w.heap.size) : ∃ A' c', v = .slice A' k c' ∧ Prs w w.heap.size A' k ps := by
  have hlen := hp.1
  rw [List.take_of_length_le (by omega)] at h
  rcases h.2 with ⟨rfl, h0⟩ | ⟨g, cap, cur, rfl, _, hg, hnc, hcm, hcs, htake⟩
  · subst h0
    have : ps = [] := List.eq_nil_of_length_eq_zero hlen
    subst this
    exact ⟨none, 0, rfl, Prs.none_⟩
  · refine ⟨_, cap, rfl, hlen, by omega, fun j p hj => (hp.2.2.1 j p hj).more hB, fun hk => ⟨_, rfl, ?_, fun j p hj => ?_⟩⟩
    · obtain ⟨g', cap', hv, _, hlt⟩ := h.form hk
      injection hv with hv
      injection hv with hv
      rw [hv]
      exact hlt
    · have hc := World.ownsRow.cells h (g := g) rfl
      exact ⟨hc _ _ (flat_at hj).1, hc _ _ (flat_at hj).2⟩

set_option maxHeartbeats 4000000 in
theorem walk (A0 : Option Addr) (n0 c0 : Nat) (l0 : List UInt8) (A1 : Option Addr) (n1 c1 : Nat) (l1 : List UInt8) (A2 : Option Addr) (n2 c2 : Nat) (l2 : List UInt8) (o : Bool) (A : Option Addr) (n c : Nat) (ps : List PV) (w : World)
    (b0 : Byt w w.heap.size A0 n0 l0) (b1 : Byt w w.heap.size A1 n1 l1) (b2 : Byt w w.heap.size A2 n2 l2) (hp : Prs w w.heap.size A n ps) :
    Calls Try.prog 6 #[.agg #[.slice A0 n0 c0, .slice A1 n1 c1, .slice A2 n2 c2], .bool o, .slice A n c] w fun e w' => e = .returned (.bool true) ∧ Below w.heap.size w w' := by
  have na : n ≤ 9223372036854775807 := by have := hp.2.1; unfold maxLen at this; omega
  have hfar := far_three A0 n0 c0 A1 n1 c1 A2 n2 c2 (w.alloc (.cells #[.slice A0 n0 c0, .slice A1 n1 c1, .slice A2 n2 c2] 38)) 22 3
  rw [World.size_alloc] at hfar
  have HFAR := Lib.hid hfar
  have BW := Lib.hid ((Below.refl w.heap.size w).alloc (Nat.le_refl _) (.cells #[.slice A0 n0 c0, .slice A1 n1 c1, .slice A2 n2 c2] 38))
  clear hfar
  by_cases hf : farB [(A0, n0, c0), (A1, n1, c1), (A2, n2, c2)] = true ∨ 40 < n
  · by_cases hf1 : farB [(A0, n0, c0), (A1, n1, c1), (A2, n2, c2)] = true
    all_goals
      go_enter Try.func6, Try.ntmps6
      go_wp2_with fail
      (with_reducible refine HFAR.out.mono ?_)
      rintro e w1 ⟨rfl, rfl⟩
      first | rw [hf1] | rw [show farB [(A0, n0, c0), (A1, n1, c1), (A2, n2, c2)] = false from by simpa using hf1]
    all_goals
      go_wp2_with (go_at_call 8; refine (alive_any _).mono ?_; rintro e w2 ⟨rfl, hbel⟩; have HB := Lib.hid (((BW.out.alloc (by simp) _).trans (hbel.mono (by simp; omega)))); clear hbel)
    · go_ret
      exact ⟨rfl, HB.out⟩
    · go_ret
      exact ⟨rfl, HB.out⟩
    · exfalso
      rcases hf with hf | hf
      · exact hf1 hf
      · omega
  · have hf1 : farB [(A0, n0, c0), (A1, n1, c1), (A2, n2, c2)] = false := by simpa using fun q => hf (.inl q)
    have hn : n ≤ 40 := by omega
    clear hf
    go_enter Try.func6, Try.ntmps6
    go_wp2_with fail
    (with_reducible refine HFAR.out.mono ?_)
    rintro e w1 ⟨rfl, hw1⟩
    rw [hf1]
    generalize hW : w.alloc (.cells #[.slice A0 n0 c0, .slice A1 n1 c1, .slice A2 n2 c2] 38) = W at hw1 BW
    have hx0 : W.cell? ⟨w.heap.size, 0, none⟩ = some (.slice A0 n0 c0) := by subst hW; rw [cell_of_row _ w.heap.size 0 _ _ (0, 0) (heap_alloc_new w _)]; rfl
    have hx1 : W.cell? ⟨w.heap.size, 1, none⟩ = some (.slice A1 n1 c1) := by subst hW; rw [cell_of_row _ w.heap.size 1 _ _ (0, 0) (heap_alloc_new w _)]; rfl
    have hx2 : W.cell? ⟨w.heap.size, 2, none⟩ = some (.slice A2 n2 c2) := by subst hW; rw [cell_of_row _ w.heap.size 2 _ _ (0, 0) (heap_alloc_new w _)]; rfl
    have hWs : W.heap.size = w.heap.size + 1 := by subst hW; simp
    have B1 := Lib.hid (show Below (w.heap.size + 1) W w1 from by rw [← hw1]; exact (Below.refl _ _).alloc (by omega) _)
    have HX := Lib.hid (And.intro hx0 (And.intro hx1 hx2))
    have HW := Lib.hid hWs
    clear hw1 hx0 hx1 hx2 hWs hW HFAR
    have HP := Lib.hid (hp.below BW.out)
    clear hp
    go_wp2_with fail
    go_loopw [7, 26] (fun v i wr => ∃ k : Nat, k ≤ n ∧ i = .int .i64 k ∧ wr.ownsRow (w.heap.size + 1) 44 2 v k (flat (ps.take k)) ∧ Below (w.heap.size + 1) W wr) (fun _ i _ => n - (intOf i).toNat)
    case atStart => exact ⟨0, Nat.zero_le _, rfl, World.ownsRow_nil _ _ _ _, B1.out⟩
    case round =>
      obtain ⟨k, hk, rfl, hown, hbel⟩ := hrel
      by_cases h1 : k < n
      · obtain ⟨ad, p, rfl, hadb, hpk, hc1, hc2, hkey⟩ := HP.out.at_ (k := k) h1
        have hd1 : wr.cell? (ad.add (k * 2)) = some (.slice p.A p.n p.c) := (hbel.cell (p := ad.add (k * 2)) (by rw [block_of_add]; omega)).trans hc1
        have hd2 : wr.cell? ⟨(ad.add (k * 2)).block, (ad.add (k * 2)).off + 1, none⟩ = some (.int .u64 p.val) := by
          have e : (⟨(ad.add (k * 2)).block, (ad.add (k * 2)).off + 1, none⟩ : Addr) = ad.add (k * 2 + 1) := by rw [← add_of_add]; rfl
          rw [e]
          exact (hbel.cell (p := ad.add (k * 2 + 1)) (by rw [block_of_add]; omega)).trans hc2
        have HPK := Lib.hid hpk
        have HO := Lib.hid hown
        have HB := Lib.hid hbel
        clear hpk hown hbel hc1 hc2 hkey
        have hfar := far_one p.A p.n p.c (wr.alloc (.cells #[.slice p.A p.n p.c, .int .u64 p.val] 43)) 22 1
        rw [World.size_alloc] at hfar
        have HFAR := Lib.hid hfar
        clear hfar
        have zr : w.heap.size + 1 ≤ wr.heap.size := by have := HB.out.size; have := HW.out; omega
        by_cases hf2 : farB [(p.A, p.n, p.c)] = true
        · go_wp2_with fail
          (with_reducible refine HFAR.out.mono ?_)
          rintro e w2 ⟨rfl, rfl⟩
          rw [hf2]
          go_wp2_with (go_at_call 8; refine (alive_any _).mono ?_; rintro e w3 ⟨rfl, hbel⟩; have HB3 := Lib.hid (((HB.out.alloc zr _).alloc (by simp; omega) _).trans (hbel.mono (by simp; omega))); clear hbel)
          go_ret
          exact ⟨rfl, BW.out.trans (HB3.out.mono (by omega))⟩
        · have hf3 : farB [(p.A, p.n, p.c)] = false := by simpa using hf2
          obtain ⟨i0, hi0, hz0, hz1, hz2⟩ := info_parts info_pair
          go_wp2_with fail
          (with_reducible refine HFAR.out.mono ?_)
          rintro e w2 ⟨rfl, rfl⟩
          rw [hf3]
          clear hf2 hf3 HFAR
          have hnews : ∀ (j : Nat) (u : Value), (pvCells p)[j]? = some u → ((((wr.alloc (.cells #[.slice p.A p.n p.c, .int .u64 p.val] 43)).alloc (.cells #[.slice p.A p.n p.c] 22)).alloc (.cells #[.slice p.A p.n p.c, .int .u64 p.val] 44)).cell? ((⟨wr.heap.size + 1 + 1, 0, none⟩ : Addr).add j)) = some u := by
            intro j u hu
            have e : (⟨wr.heap.size + 1 + 1, 0, none⟩ : Addr).add j = ⟨wr.heap.size + 1 + 1, j, none⟩ := by
              unfold Addr.add
              split
              · rename_i q; rw [q]
              · simp
            rw [e, cell_of_row _ (wr.heap.size + 1 + 1) j #[.slice p.A p.n p.c, .int .u64 p.val] 44 (0, 0) (by
              have := heap_alloc_new ((wr.alloc (.cells #[.slice p.A p.n p.c, .int .u64 p.val] 43)).alloc (.cells #[.slice p.A p.n p.c] 22)) (.cells #[.slice p.A p.n p.c, .int .u64 p.val] 44)
              simpa using this)]
            simpa [pvCells] using hu
          have HNW := Lib.hid hnews
          clear hnews
          go_wp2_with (
            at_builtin
            refine wpList_append_own _ rfl (.tmp 35) (.tmp 37) _ rfl (w.heap.size + 1) 44 i0 _ 2 32 Try.underlying40 hi0 hz0 hz1 hz2 rfl (by omega) _ k (flat (ps.take k)) rfl (((HO.out.alloc _).alloc _).alloc _) ⟨wr.heap.size + 1 + 1, 0, none⟩ 1 1 (pvCells p) rfl rfl HNW.out (by intro u hu; simp [pvCells] at hu; rcases hu with rfl | rfl <;> rfl) (by unfold maxLen; omega) (by omega) (by simp; omega) ?_
            intro v1 w3 hm1 hg1 _
            have HM := Lib.hid hm1
            have HB3 := Lib.hid ((((HB.out.alloc zr _).alloc (by simp; omega) _).alloc (by simp; omega) _).grown hg1 (by simp; omega) (fun j hj => (HO.out.lt j hj).1))
            clear hm1 hg1)
          exact ⟨⟨k + 1, by omega, by go_num, by rw [flat_snoc HPK.out]; exact HM.out, HB3.out⟩, by simp [intOf]; omega⟩
      · have hkn : k = n := by omega
        subst hkn
        have HO := Lib.hid hown
        have HB := Lib.hid hbel
        clear hown hbel
        obtain ⟨A', c', rfl, hpk⟩ := prs_own HO.out (HP.out.below (HB.out.mono (by omega))) (by have := HB.out.size; have := HW.out; omega)
        have zr : w.heap.size + 1 ≤ wr.heap.size := by have := HB.out.size; have := HW.out; omega
        have hx0 : wr.cell? ⟨w.heap.size, 0, none⟩ = some (.slice A0 n0 c0) := (HB.out.cell (p := ⟨w.heap.size, 0, none⟩) (by simp)).trans HX.out.1
        have hx1 : wr.cell? ⟨w.heap.size, 1, none⟩ = some (.slice A1 n1 c1) := (HB.out.cell (p := ⟨w.heap.size, 1, none⟩) (by simp)).trans HX.out.2.1
        have hx2 : wr.cell? ⟨w.heap.size, 2, none⟩ = some (.slice A2 n2 c2) := (HB.out.cell (p := ⟨w.heap.size, 2, none⟩) (by simp)).trans HX.out.2.2
        have hk : ∀ W', Below wr.heap.size wr W' → (Byt W' w.heap.size A0 n0 l0 ∧ Byt W' w.heap.size A1 n1 l1 ∧ Byt W' w.heap.size A2 n2 l2) ∧ Prs W' wr.heap.size A' k ps ∧ Prs W' w.heap.size A k ps := fun W' h => by
          have hw : Below w.heap.size w W' := (BW.out.trans (HB.out.mono (by omega))).trans (h.mono (by omega))
          exact ⟨⟨b0.below hw, b1.below hw, b2.below hw⟩, hpk.below h, HP.out.below ((HB.out.mono (by omega)).trans (h.mono (by omega)))⟩
        have HK := Lib.hid hk
        have hbr : Below wr.heap.size wr wr := Below.refl _ _
        clear hk hpk b0 b1 b2
        go_wp2_with fail
        go_region_held3 (fun w' => w'.cell? ⟨w.heap.size, 0, none⟩ = some (.slice A0 n0 c0) ∧ w'.cell? ⟨w.heap.size, 1, none⟩ = some (.slice A1 n1 c1) ∧ w'.cell? ⟨w.heap.size, 2, none⟩ = some (.slice A2 n2 c2))
          (first
            | go_keep
            | exact ⟨(hb5.cell (p := ⟨w.heap.size, 0, none⟩) (by simp; omega)).trans hx0, (hb5.cell (p := ⟨w.heap.size, 1, none⟩) (by simp; omega)).trans hx1, (hb5.cell (p := ⟨w.heap.size, 2, none⟩) (by simp; omega)).trans hx2⟩
            | exact ⟨(hb4.cell (p := ⟨w.heap.size, 0, none⟩) (by simp; omega)).trans hx0, (hb4.cell (p := ⟨w.heap.size, 1, none⟩) (by simp; omega)).trans hx1, (hb4.cell (p := ⟨w.heap.size, 2, none⟩) (by simp; omega)).trans hx2⟩
            | exact ⟨(hb3.cell (p := ⟨w.heap.size, 0, none⟩) (by simp; omega)).trans hx0, (hb3.cell (p := ⟨w.heap.size, 1, none⟩) (by simp; omega)).trans hx1, (hb3.cell (p := ⟨w.heap.size, 2, none⟩) (by simp; omega)).trans hx2⟩
            | exact ⟨(hb2.cell (p := ⟨w.heap.size, 0, none⟩) (by simp; omega)).trans hx0, (hb2.cell (p := ⟨w.heap.size, 1, none⟩) (by simp; omega)).trans hx1, (hb2.cell (p := ⟨w.heap.size, 2, none⟩) (by simp; omega)).trans hx2⟩
            | exact ⟨(hb1.cell (p := ⟨w.heap.size, 0, none⟩) (by simp; omega)).trans hx0, (hb1.cell (p := ⟨w.heap.size, 1, none⟩) (by simp; omega)).trans hx1, (hb1.cell (p := ⟨w.heap.size, 2, none⟩) (by simp; omega)).trans hx2⟩)
          (first
            | (go_at_call 19; refine (within_any _ _ _ _ _ _ _ _ _ w.heap.size l0 l1 l2 o _ (HK.out _ (by repeat (first | assumption | apply below_drewN | apply Below.drew))).1.1 (HK.out _ (by repeat (first | assumption | apply below_drewN | apply Below.drew))).1.2.1 (HK.out _ (by repeat (first | assumption | apply below_drewN | apply Below.drew))).1.2.2).mono ?_; rintro e w1 ⟨rfl, hst1⟩; have hb1 : Below wr.heap.size wr w1 := Below.trans (by repeat (first | assumption | apply below_drewN | apply Below.drew)) (hst1.below _))
            | (go_at_call 25; refine (rwithin_any _ _ _ _ _ _ _ _ _ w.heap.size l0 l1 l2 o _ (HK.out _ (by repeat (first | assumption | apply below_drewN | apply Below.drew))).1.1 (HK.out _ (by repeat (first | assumption | apply below_drewN | apply Below.drew))).1.2.1 (HK.out _ (by repeat (first | assumption | apply below_drewN | apply Below.drew))).1.2.2).mono ?_; rintro e w2 ⟨rfl, hst2⟩; have hb2 : Below wr.heap.size wr w2 := Below.trans (by repeat (first | assumption | apply below_drewN | apply Below.drew)) (hst2.below _))
            | (go_at_call 26; refine (sorted_any _ _ _ wr.heap.size ps _ (HK.out _ (by repeat (first | assumption | apply below_drewN | apply Below.drew))).2.1 (by omega)).mono ?_; rintro e w3 ⟨rfl, hst3⟩; have hb3 : Below wr.heap.size wr w3 := Below.trans (by repeat (first | assumption | apply below_drewN | apply Below.drew)) (hst3.below _))
            | (go_at_call 27; refine (rsorted_any _ _ _ w.heap.size ps _ (HK.out _ (by repeat (first | assumption | apply below_drewN | apply Below.drew))).2.2 (by omega)).mono ?_; rintro e w4 ⟨rfl, hst4⟩; have hb4 : Below wr.heap.size wr w4 := Below.trans (by repeat (first | assumption | apply below_drewN | apply Below.drew)) (hst4.below _))
            | (go_at_call 8; refine (alive_any _).mono ?_; rintro e w5 ⟨rfl, hst5⟩; have hb5 : Below wr.heap.size wr w5 := Below.trans hb4 (hst5.mono (by have := hb4.size; simp; omega))))
        go_wp2
        go_ret
        exact ⟨by simp, (BW.out.trans (HB.out.mono (by omega))).trans (hb5.mono (by omega))⟩

set_option maxRecDepth 100000 in
theorem lifted (os : Os) (started : os.Started) (H : Type) (enc : TypeId × Value → H) :
    ReturnsInHanded {} Try.checked os 6 .any (Rows.keysWithinSpec.pre6 enc Try.prog Try.f6 Rows.keysWithinRow.domain false) (Rows.keysWithinSpec.post enc Try.prog Try.f6 false true false false) := by
  refine returnsInHanded_of_change (C := Try.checked) own started (by kernel_rfl) Try.func6
    (ChangeSpec.witness6 (enc := enc) (C := Try.checked) false ⟨#[], #[.agg #[.slice none 0 0, .slice none 0 0, .slice none 0 0], .bool false, .slice none 0 0], []⟩ 8 (by kernel_rfl) (by kernel_rfl) (by kernel_rfl) (by kernel_rfl)) ?_
  intro W base args ds gs before hval0 hW hcnd _
  have hval : ∀ (j : Nat) t v, Try.f6.params[j]? = some t → args[j]? = some v → Value.okWide Try.prog W .any base t v := hval0
  have hW' := hW
  obtain ⟨p, q, hA0, hV, rfl, hfz, hnd⟩ := hW
  have hA : DataW.TrodAll enc Try.prog W 0 (fun _ => true) true Try.f6.params.toList args.toList ds p := hA0
  rw [Try.params6] at hA hval
  obtain ⟨v0, vs0, d0, ds0, p0, q0, hargs, rfl, rfl, h0, r0⟩ := trodAll_cons hA
  obtain ⟨v1, vs1, d1, ds1, p1, q1, rfl, rfl, rfl, h1, r1⟩ := trodAll_cons r0
  obtain ⟨v2, vs2, d2, ds2, p2, q2, rfl, rfl, rfl, h2, r2⟩ := trodAll_cons r1
  obtain ⟨rfl, rfl, rfl⟩ := trodAll_nil r2
  obtain rfl : args = #[v0, v1, v2] := by cases args; simp_all
  obtain ⟨rfl, rfl⟩ := trodVars_none hV
  have k0 := h0
  have lt0 : ∀ x ∈ p0, x.block < W.heap.size := by obtain ⟨m, hm⟩ := k0; exact DataW.trod_lt m _ _ _ hm
  have k1 := h1
  have lt1 : ∀ x ∈ p1, x.block < W.heap.size := by obtain ⟨m, hm⟩ := k1; exact DataW.trod_lt m _ _ _ hm
  have k2 := h2
  have lt2 : ∀ x ∈ p2, x.block < W.heap.size := by obtain ⟨m, hm⟩ := k2; exact DataW.trod_lt m _ _ _ hm
  obtain ⟨A0, n0, c0, l0, A1, n1, c1, l1, A2, n2, c2, l2, rfl, b0, b1, b2⟩ := open_arr3 (hval 0 38 v0 rfl rfl) h0
  obtain ⟨x1, rfl, _, _⟩ := open_bool Try.underlying4 (hval 1 4 v1 rfl rfl) h1
  obtain ⟨A, n, c, ps, rfl, hps⟩ := open_prs (hval 2 39 v2 rfl rfl) h2
  clear hA0 hval0
  refine (walk A0 n0 c0 l0 A1 n1 c1 l1 A2 n2 c2 l2 x1 A n c ps W b0 b1 b2 hps).mono fun e W' ⟨he, bel⟩ => ?_
  subst he
  exact ⟨_, rfl, _, _, _, [], _, [], hW', trodAll_mk1 (shut_bool Try.underlying4 _), (trodAll_cons_mk (Below.trod laidOut (by kernel_rfl) (of_decide_eq_true (by kernel_rfl)) k0 bel lt0) (trodAll_cons_mk (Below.trod laidOut (by kernel_rfl) (of_decide_eq_true (by kernel_rfl)) k1 bel lt1) (trodAll_cons_mk (Below.trod laidOut (by kernel_rfl) (of_decide_eq_true (by kernel_rfl)) k2 bel lt2) trodAll_mk0))), rfl, bel.frame _, fun h => by cases h⟩

theorem proved : Rows.KeysWithinSaid :=
  OpenClaim.holds_of_wide 6 Try.f6 rfl rfl rfl rfl rfl rfl rfl ⟨rfl, rfl, rfl, rfl, rfl⟩ rfl rfl rfl rfl rfl (by kernel_rfl) Try.func6 (by kernel_rfl)
    (of_decide_eq_true (by kernel_rfl)) (by unfold Func.isWrapper; first | (rw [if_pos (by decide +kernel)]; kernel_rfl) | (rw [if_neg (by decide +kernel)]; exact ⟨rfl, rfl⟩))
    (fun os started H enc _ => lifted os started H enc)
#print axioms proved
end Go.Proofs.Ytdllgcaeenldaaa.keysWithin
