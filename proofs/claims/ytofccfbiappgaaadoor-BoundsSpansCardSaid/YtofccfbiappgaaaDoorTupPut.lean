/-
  What tuple.Put and the document's Put answer: a tuple's bytes, or an error.
-/
import Derived.Test.YtofccfbiappgaaaDoorTup
import Derived.Test.YtofccfbiappgaaaDoorFieldPut
namespace Go.Proofs.YtofccfbiappgaaaDoor
open Go.RowKit

/-- What is left where bytes and an error are handed back. -/
def TPost (w : World) (l : List UInt8) (er : Int) (e : Ending) (w' : World) : Prop := ∃ A n c, e = .returned (.tuple #[.slice A n c, .int .i64 er]) ∧ Byt w' w'.heap.size A n l ∧ n ≤ c ∧ Below w.heap.size w w'
theorem TPost.none_ {w w' : World} {l : List UInt8} {er a : Int} (hp : a = er ∧ [] = l) (hb : Below w.heap.size w w') : TPost w l er (.returned (.tuple #[.slice none 0 0, .int .i64 a])) w' := by
  obtain ⟨rfl, rfl⟩ := hp
  exact ⟨none, 0, 0, rfl, Byt.none_, Nat.le_refl _, hb⟩
theorem TPost.mine {w w' : World} {base : Nat} {e : TypeId} {v : Value} {n : Nat} {l l' : List UInt8} {er a : Int} (h : Mine w' base e v n l) (hp : a = er ∧ l = l') (hb : Below w.heap.size w w') : TPost w l' er (.returned (.tuple #[v, .int .i64 a])) w' := by
  obtain ⟨rfl, rfl⟩ := hp
  obtain ⟨A, c, rfl⟩ := h.slice
  exact ⟨A, n, c, rfl, h.byt, h.room, hb⟩
theorem Mine.below {w w' : World} {B base : Nat} {e : TypeId} {v : Value} {n : Nat} {l : List UInt8} (h : Mine w base e v n l) (hb : Below B w w') (hg : ∀ g, v.ownBlock = some g → g < B) : Mine w' base e v n l := by
  refine ⟨h.1, ?_⟩
  rcases h.2 with q | ⟨g, cap, cur, rfl, h1, h2, h3⟩
  · exact .inl q
  · exact .inr ⟨g, cap, cur, rfl, h1, (hb.block g (hg g rfl)).trans h2, h3⟩
theorem cat_le {fs : List Fd} {vs : List Vl} {k : Nat} {f : Fd} {v : Vl} (hl : fs.length = vs.length) (hf : fs[k]? = some f) (hv : vs[k]? = some v) : (catL (fs.take k) (vs.take k)).length + (oneL f v).length ≤ (catL fs vs).length := by
  rw [catL_split hl (k + 1), catL_step hl hf hv]
  simp only [List.length_append]
  omega
theorem kind_at {fs : List Fd} {k : Nat} {f : Fd} (h : chkL fs = 0) (hf : fs[k]? = some f) : 1 ≤ f.k ∧ f.k ≤ 10 := (chkL_zero h).2 f (List.mem_of_getElem? hf)

set_option maxRecDepth 100000 in
set_option maxHeartbeats 4000000 in
theorem tput_any (A A' : Option Addr) (n c n' c' B : Nat) (fs : List Fd) (vs : List Vl) (w : World) (hT : Tab w) (ha : Fds w B A n fs) (hb : Vls w B A' n' vs) (hB : B ≤ w.heap.size) (hv : ∀ v ∈ vs, VB v ∧ v.l.length ≤ 1000000) :
    Calls Tryd.prog 37 #[.slice A n c, .slice A' n' c'] w (TPost w (putsL fs vs) (putsE fs vs)) := by
  have HN := Lib.hid ha.length
  have HN' := Lib.hid hb.length
  have HA := Lib.hid (fun V (h : Below w.heap.size w V) => And.intro ((ha.more hB).below h) ((hb.more hB).below h))
  have HT := Lib.hid (fun V (h : Below w.heap.size w V) => hT.below h)
  have HV := Lib.hid hv
  have hm : n ≤ 9223372036854775807 := by have := ha.2.1; unfold maxLen at this; omega
  have hm' : n' ≤ 9223372036854775807 := by obtain ⟨css, q, _⟩ := hb; have := q.2.1; unfold maxLen at this; omega
  have HC := Lib.hid (tcheck_any A n c B fs w ha hB)
  clear ha hb hT hv
  generalize hCC : chkL fs = C at HC
  have HCC := Lib.hid hCC
  clear hCC
  by_cases hc : C = 0
  · subst hc
    by_cases h1 : n' < n
    · go_enter Tryd.func37, Tryd.ntmps37
      go_wp2_with fail
      (with_reducible refine HC.out.mono ?_)
      rintro e w1 ⟨rfl, hb1⟩
      have B1 := Lib.hid hb1
      clear hb1
      go_wp2
      go_ret2
      exact TPost.none_ (by obtain ⟨q1, q2⟩ := putsE_end HCC.out (vs := vs) (by rw [HN.out, HN'.out]; exact h1); exact ⟨q1.symm, q2.symm⟩) B1.out
    · by_cases h2 : n < n'
      · go_enter Tryd.func37, Tryd.ntmps37
        go_wp2_with fail
        (with_reducible refine HC.out.mono ?_)
        rintro e w1 ⟨rfl, hb1⟩
        have B1 := Lib.hid hb1
        clear hb1
        go_wp2
        go_ret2
        exact TPost.none_ (by obtain ⟨q1, q2⟩ := putsE_many HCC.out (vs := vs) (by rw [HN.out, HN'.out]; exact h2); exact ⟨q1.symm, q2.symm⟩) B1.out
      · obtain rfl : n = n' := by omega
        have HL := Lib.hid (show fs.length = vs.length from HN.out.trans HN'.out.symm)
        have hn : n ≤ 255 := by have := (chkL_zero HCC.out).1; rw [HN.out] at this; exact this
        go_enter Tryd.func37, Tryd.ntmps37
        go_wp2_with fail
        (with_reducible refine HC.out.mono ?_)
        rintro e w1 ⟨rfl, hb1⟩
        have B1 := Lib.hid hb1
        clear hb1
        go_wp2
        go_loopw [7, 29] (fun v i wr => ∃ k L : Nat, k ≤ n ∧ i = .int .i64 k ∧ L ≤ 65535 ∧ Hid (Mine wr w.heap.size 5 v L (catL (fs.take k) (vs.take k))) ∧ Hid (catB (fs.take k) (vs.take k) = true) ∧ Hid (Below w.heap.size w wr)) (fun _ i _ => n - (intOf i).toNat)
        case atStart => exact ⟨0, 0, Nat.zero_le _, rfl, Nat.zero_le _, Mine.nil _ _ _, rfl, B1⟩
        case round =>
          obtain ⟨k, L, hk, rfl, hL, HM, HO, HB⟩ := hrel
          obtain ⟨Am, cm, rfl⟩ := HM.out.slice
          by_cases h3 : k < n
          · obtain ⟨ad, f, rfl, hlt, hf, c0, c1⟩ := (HA.out _ HB.out).1.at_ h3
            obtain ⟨ad', v, A2, m2, cp2, rfl, hlt', hv, d0, d1, d2, d3, hy, hm2⟩ := (HA.out _ HB.out).2.at_ h3
            have HF := Lib.hid hf
            have HVV := Lib.hid hv
            have hsz := HB.out.size
            generalize hW : wr.alloc (.cells #[.int .i64 f.k, .bool f.f] 65) = W
            have BW := Lib.hid (show Below wr.heap.size wr W from by subst hW; exact (Below.refl _ _).alloc (Nat.le_refl _) _)
            have HW := Lib.hid (show Below w.heap.size w W from HB.out.trans (BW.out.mono hsz))
            have hF : Two W wr.heap.size (.int .i64 f.k) (.bool f.f) := by subst hW; exact Two.new _ _ _ _
            have hx0 := hF.k0
            have hx1 := hF.k1
            have hlw : wr.heap.size < W.heap.size := hF.lt
            have e0 : W.cell? (ad'.add (k * 4)) = some (.int .u64 (v.u : Int)) := (BW.out.cell (p := ad'.add (k * 4)) (by rw [block_of_add]; omega)).trans d0
            have e1 : W.cell? ⟨(ad'.add (k * 4)).block, (ad'.add (k * 4)).off + 1, none⟩ = some (.int .i64 v.i) := (BW.out.cell (p := ⟨(ad'.add (k * 4)).block, (ad'.add (k * 4)).off + 1, none⟩) (by show (ad'.add (k * 4)).block < _; rw [block_of_add]; omega)).trans d1
            have e2 : W.cell? ⟨(ad'.add (k * 4)).block, (ad'.add (k * 4)).off + 2, none⟩ = some (.slice A2 m2 cp2) := (BW.out.cell (p := ⟨(ad'.add (k * 4)).block, (ad'.add (k * 4)).off + 2, none⟩) (by show (ad'.add (k * 4)).block < _; rw [block_of_add]; omega)).trans d2
            have e3 : W.cell? ⟨(ad'.add (k * 4)).block, (ad'.add (k * 4)).off + 3, none⟩ = some (.bool v.t) := (BW.out.cell (p := ⟨(ad'.add (k * 4)).block, (ad'.add (k * 4)).off + 3, none⟩) (by show (ad'.add (k * 4)).block < _; rw [block_of_add]; omega)).trans d3
            have hb4 : (ad'.add (k * 4)).block < W.heap.size := by rw [block_of_add]; omega
            have HX := Lib.hid (show Calls Tryd.prog 47 #[.agg #[.int .i64 f.k, .bool f.f], .agg #[.int .u64 (v.u : Int), .int .i64 v.i, .slice A2 m2 cp2, .bool v.t]] W.drew (PutPost W.drew (oneL f v) (oneE f v)) from
              fput_any f.k f.f v.u v.i A2 m2 cp2 w.heap.size v.l v.t W.drew (HV.out v (List.mem_of_getElem? hv)).1.1 (HV.out v (List.mem_of_getElem? hv)).1.2 (HT.out _ HW.out.drew) (hy.below (BW.out.mono hsz)).drew HW.out.size (by have := hy.1; have := (HV.out v (List.mem_of_getElem? hv)).2; omega))
            have HK := Lib.hid (kind_at HCC.out hf)
            have HMW := Lib.hid (HM.out.below BW.out (fun g hg => (HM.out.lt g hg).2))
            clear hv hf hy hF d0 d1 d2 d3
            generalize hX : oneE f v = X at HX
            have HXX := Lib.hid hX
            clear hX
            go_wp2_with fail
            clear hW c0 c1
            have hi4 : (k : Int) < (n : Int) := by omega
            go_region_held3 (fun w' => (w'.cell? ⟨wr.heap.size, 0, none⟩ = some (.int .i64 f.k) ∧ w'.cell? ⟨wr.heap.size, 1, none⟩ = some (.bool f.f)) ∧ w'.cell? (ad'.add (k * 4)) = some (.int .u64 (v.u : Int)) ∧ w'.cell? ⟨(ad'.add (k * 4)).block, (ad'.add (k * 4)).off + 1, none⟩ = some (.int .i64 v.i) ∧ w'.cell? ⟨(ad'.add (k * 4)).block, (ad'.add (k * 4)).off + 2, none⟩ = some (.slice A2 m2 cp2) ∧ w'.cell? ⟨(ad'.add (k * 4)).block, (ad'.add (k * 4)).off + 3, none⟩ = some (.bool v.t))
              (first
                | go_keep
                | exact ⟨⟨(h2.cell (p := ⟨wr.heap.size, 0, none⟩) hlw).trans hx0, (h2.cell (p := ⟨wr.heap.size, 1, none⟩) hlw).trans hx1⟩, (h2.cell (p := ad'.add (k * 4)) hb4).trans e0, (h2.cell (p := ⟨(ad'.add (k * 4)).block, (ad'.add (k * 4)).off + 1, none⟩) hb4).trans e1, (h2.cell (p := ⟨(ad'.add (k * 4)).block, (ad'.add (k * 4)).off + 2, none⟩) hb4).trans e2, (h2.cell (p := ⟨(ad'.add (k * 4)).block, (ad'.add (k * 4)).off + 3, none⟩) hb4).trans e3⟩)
              (first | (go_at_call 47; refine HX.out.mono ?_; rintro e w2 ⟨A3, n3, c3, rfl, y3, h2⟩))
            have C2 := Lib.hid (show Below W.heap.size W w2 from (Below.refl W.heap.size W).drew.trans h2)
            have Y3 := Lib.hid y3
            have hn3 : n3 ≤ 2000008 := by
              have q1 := y3.1
              have q2 := turn_length f.f (fR f.k v.u v.i v.l v.t)
              have q3 := fR_length f.k v.u v.i v.l v.t
              have q4 := (HV.out v (List.mem_of_getElem? HVV.out)).2
              unfold oneL at q1
              omega
            have Z2 := Lib.hid (HW.out.trans (C2.out.mono HW.out.size))
            have M2 := Lib.hid (HMW.out.below C2.out (fun g hg => (HMW.out.lt g hg).2))
            clear y3 h2 hx0 hx1 e0 e1 e2 e3
            by_cases hE : X = 0
            · subst hE
              by_cases hbig : 65535 < L + n3
              · go_wp2
                go_ret2
                have := cat_le HL.out HF.out HVV.out
                have q1 := HM.out.length
                have q2 := Y3.out.1
                obtain ⟨q3, q4⟩ := putsE_big HCC.out HL.out (.inr (by omega))
                exact TPost.none_ ⟨q3.symm, q4.symm⟩ Z2.out
              · have zs := Z2.out.size
                go_wp2_with (at_builtin
                             refine wpList_append_byt w2 rfl (.tmp 52) (.tmp 53) _ rfl Tryd.underlying22 info_u8 w.heap.size (.slice Am L cm) L _ rfl M2.out w2.heap.size A3 n3 c3 (oneL f v) rfl Y3.out (by omega) zs ?_
                             intro v4 w4 hm4 hg4 _
                             have M4 := Lib.hid hm4
                             have Z4 := Lib.hid (Z2.out.grown hg4 zs (fun g hg => (M2.out.lt g hg).1))
                             clear hm4 hg4)
                go_wp2
                exact ⟨⟨k + 1, L + n3, by omega, by go_num, by omega, by rw [catL_step HL.out HF.out HVV.out]; exact M4, catB_step HL.out HF.out HVV.out HO.out HXX.out, Z4⟩, by simp [intOf]; omega⟩
            · have h8 : X = 8 := by
                rcases fE_cases HK.out v.u v.i with q | q
                · exact absurd (HXX.out.symm.trans q) hE
                · exact HXX.out.symm.trans q
              go_wp2
              go_ret2
              obtain ⟨q3, q4⟩ := putsE_big HCC.out HL.out (.inl (catB_at HL.out HF.out HVV.out (by rw [HXX.out]; exact hE)))
              exact TPost.none_ ⟨by rw [h8, q3], q4.symm⟩ Z2.out
          · obtain rfl : k = n := by omega
            go_wp2
            go_ret2
            have e1 : fs.take k = fs := List.take_of_length_le (by rw [HN.out]; exact Nat.le_refl _)
            have e2 : vs.take k = vs := List.take_of_length_le (by rw [HN'.out]; exact Nat.le_refl _)
            have q0 := HM.out
            have q1 := HO.out
            rw [e1, e2] at q0 q1
            obtain ⟨q2, q3⟩ := putsE_ok HCC.out HL.out q1 (by rw [q0.length]; exact hL)
            exact TPost.mine q0 ⟨q2.symm, q3.symm⟩ HB.out
  · go_enter Tryd.func37, Tryd.ntmps37
    go_wp2_with fail
    (with_reducible refine HC.out.mono ?_)
    rintro e w1 ⟨rfl, hb1⟩
    have B1 := Lib.hid hb1
    clear hb1
    go_wp2
    go_ret2
    exact TPost.none_ (by obtain ⟨q1, q2⟩ := putsE_chk (fs := fs) (vs := vs) (by rw [HCC.out]; exact hc); exact ⟨by rw [q1, HCC.out], q2.symm⟩) B1.out

set_option maxRecDepth 100000 in
set_option maxHeartbeats 4000000 in
theorem rtput_any (A A' : Option Addr) (n c n' c' B : Nat) (fs : List Fd) (vs : List Vl) (w : World) (ha : Fds w B A n fs) (hb : Vls w B A' n' vs) (hB : B ≤ w.heap.size) (hv : ∀ v ∈ vs, VB v ∧ v.l.length ≤ 1000000) :
    Calls Tryd.prog 27 #[.slice A n c, .slice A' n' c'] w (TPost w (putsL fs vs) (putsE fs vs)) := by
  have HN := Lib.hid ha.length
  have HN' := Lib.hid hb.length
  have HA := Lib.hid (fun V (h : Below w.heap.size w V) => And.intro ((ha.more hB).below h) ((hb.more hB).below h))
  have HV := Lib.hid hv
  have hm : n ≤ 9223372036854775807 := by have := ha.2.1; unfold maxLen at this; omega
  have hm' : n' ≤ 9223372036854775807 := by obtain ⟨css, q, _⟩ := hb; have := q.2.1; unfold maxLen at this; omega
  have HC := Lib.hid ((rtcheck_any A n c B fs w ha).mono fun _ _ h => (And.intro h.1 (h.2.below w.heap.size) : _ ∧ Below w.heap.size w _))
  clear ha hb hv
  generalize hCC : chkL fs = C at HC
  have HCC := Lib.hid hCC
  clear hCC
  by_cases hc : C = 0
  · subst hc
    by_cases h1 : n' < n
    · go_enter Tryd.func27, Tryd.ntmps27
      go_wp2_with fail
      (with_reducible refine HC.out.mono ?_)
      rintro e w1 ⟨rfl, hb1⟩
      have B1 := Lib.hid hb1
      clear hb1
      go_wp2
      go_ret2
      exact TPost.none_ (by obtain ⟨q1, q2⟩ := putsE_end HCC.out (vs := vs) (by rw [HN.out, HN'.out]; exact h1); exact ⟨q1.symm, q2.symm⟩) B1.out
    · by_cases h2 : n < n'
      · go_enter Tryd.func27, Tryd.ntmps27
        go_wp2_with fail
        (with_reducible refine HC.out.mono ?_)
        rintro e w1 ⟨rfl, hb1⟩
        have B1 := Lib.hid hb1
        clear hb1
        go_wp2
        go_ret2
        exact TPost.none_ (by obtain ⟨q1, q2⟩ := putsE_many HCC.out (vs := vs) (by rw [HN.out, HN'.out]; exact h2); exact ⟨q1.symm, q2.symm⟩) B1.out
      · obtain rfl : n = n' := by omega
        have HL := Lib.hid (show fs.length = vs.length from HN.out.trans HN'.out.symm)
        have hn : n ≤ 255 := by have := (chkL_zero HCC.out).1; rw [HN.out] at this; exact this
        go_enter Tryd.func27, Tryd.ntmps27
        go_wp2_with fail
        (with_reducible refine HC.out.mono ?_)
        rintro e w1 ⟨rfl, hb1⟩
        have B1 := Lib.hid hb1
        clear hb1
        go_wp2
        go_loopw [7, 8] (fun v i wr => ∃ k L : Nat, k ≤ n ∧ i = .int .i64 k ∧ L ≤ k * 2000008 ∧ Hid (Mine wr w.heap.size 5 v L (catL (fs.take k) (vs.take k))) ∧ Hid (catB (fs.take k) (vs.take k) = true) ∧ Hid (Below w.heap.size w wr)) (fun _ i _ => n - (intOf i).toNat)
        case atStart => exact ⟨0, 0, Nat.zero_le _, rfl, by omega, Mine.nil _ _ _, rfl, B1⟩
        case round =>
          obtain ⟨k, L, hk, rfl, hL, HM, HO, HB⟩ := hrel
          obtain ⟨Am, cm, rfl⟩ := HM.out.slice
          by_cases h3 : k < n
          · obtain ⟨ad, f, rfl, hlt, hf, c0, c1⟩ := (HA.out _ HB.out).1.at_ h3
            obtain ⟨ad', v, A2, m2, cp2, rfl, hlt', hv, d0, d1, d2, d3, hy, hm2⟩ := (HA.out _ HB.out).2.at_ h3
            have HF := Lib.hid hf
            have HVV := Lib.hid hv
            have hsz := HB.out.size
            have hb2 : (ad.add (k * 2)).block < wr.heap.size := by rw [block_of_add]; omega
            have hb4 : (ad'.add (k * 4)).block < wr.heap.size := by rw [block_of_add]; omega
            have HX := Lib.hid (show Calls Tryd.prog 39 #[.agg #[.int .i64 f.k, .bool f.f], .agg #[.int .u64 (v.u : Int), .int .i64 v.i, .slice A2 m2 cp2, .bool v.t]] wr.drew (PutPost wr.drew (oneL f v) (oneE f v)) from
              rfput_any f.k f.f v.u v.i A2 m2 cp2 w.heap.size v.l v.t wr.drew (HV.out v (List.mem_of_getElem? hv)).1.1 (HV.out v (List.mem_of_getElem? hv)).1.2 hy.drew HB.out.size (by have := hy.1; have := (HV.out v (List.mem_of_getElem? hv)).2; omega))
            have HK := Lib.hid (kind_at HCC.out hf)
            clear hv hf hy
            generalize hX : oneE f v = X at HX
            have HXX := Lib.hid hX
            clear hX
            go_wp2_with fail
            have hi4 : (k : Int) < (n : Int) := by omega
            go_region_held3 (fun w' => (w'.cell? (ad.add (k * 2)) = some (.int .i64 f.k) ∧ w'.cell? ⟨(ad.add (k * 2)).block, (ad.add (k * 2)).off + 1, none⟩ = some (.bool f.f)) ∧ w'.cell? (ad'.add (k * 4)) = some (.int .u64 (v.u : Int)) ∧ w'.cell? ⟨(ad'.add (k * 4)).block, (ad'.add (k * 4)).off + 1, none⟩ = some (.int .i64 v.i) ∧ w'.cell? ⟨(ad'.add (k * 4)).block, (ad'.add (k * 4)).off + 2, none⟩ = some (.slice A2 m2 cp2) ∧ w'.cell? ⟨(ad'.add (k * 4)).block, (ad'.add (k * 4)).off + 3, none⟩ = some (.bool v.t))
              (first
                | go_keep
                | exact ⟨⟨(h2.cell (p := ad.add (k * 2)) hb2).trans c0, (h2.cell (p := ⟨(ad.add (k * 2)).block, (ad.add (k * 2)).off + 1, none⟩) hb2).trans c1⟩, (h2.cell (p := ad'.add (k * 4)) hb4).trans d0, (h2.cell (p := ⟨(ad'.add (k * 4)).block, (ad'.add (k * 4)).off + 1, none⟩) hb4).trans d1, (h2.cell (p := ⟨(ad'.add (k * 4)).block, (ad'.add (k * 4)).off + 2, none⟩) hb4).trans d2, (h2.cell (p := ⟨(ad'.add (k * 4)).block, (ad'.add (k * 4)).off + 3, none⟩) hb4).trans d3⟩)
              (first | (go_at_call 39; refine HX.out.mono ?_; rintro e w2 ⟨A3, n3, c3, rfl, y3, h2⟩))
            have C2 := Lib.hid (show Below wr.heap.size wr w2 from (Below.refl wr.heap.size wr).drew.trans h2)
            have Y3 := Lib.hid y3
            have hn3 : n3 ≤ 2000008 := by
              have q1 := y3.1
              have q2 := turn_length f.f (fR f.k v.u v.i v.l v.t)
              have q3 := fR_length f.k v.u v.i v.l v.t
              have q4 := (HV.out v (List.mem_of_getElem? HVV.out)).2
              unfold oneL at q1
              omega
            have Z2 := Lib.hid (HB.out.trans (C2.out.mono HB.out.size))
            have M2 := Lib.hid (HM.out.below C2.out (fun g hg => (HM.out.lt g hg).2))
            clear y3 h2 c0 c1 d0 d1 d2 d3
            by_cases hE : X = 0
            · subst hE
              have zs := Z2.out.size
              go_wp2_with (at_builtin
                           refine wpList_append_byt w2 rfl (.tmp 47) (.tmp 48) _ rfl Tryd.underlying22 info_u8 w.heap.size (.slice Am L cm) L _ rfl M2.out w2.heap.size A3 n3 c3 (oneL f v) rfl Y3.out (by omega) zs ?_
                           intro v4 w4 hm4 hg4 _
                           have M4 := Lib.hid hm4
                           have Z4 := Lib.hid (Z2.out.grown hg4 zs (fun g hg => (M2.out.lt g hg).1))
                           clear hm4 hg4)
              go_wp2
              exact ⟨⟨k + 1, L + n3, by omega, by go_num, by omega, by rw [catL_step HL.out HF.out HVV.out]; exact M4, catB_step HL.out HF.out HVV.out HO.out HXX.out, Z4⟩, by simp [intOf]; omega⟩
            · have h8 : X = 8 := by
                rcases fE_cases HK.out v.u v.i with q | q
                · exact absurd (HXX.out.symm.trans q) hE
                · exact HXX.out.symm.trans q
              go_wp2
              go_ret2
              obtain ⟨q3, q4⟩ := putsE_big HCC.out HL.out (.inl (catB_at HL.out HF.out HVV.out (by rw [HXX.out]; exact hE)))
              exact TPost.none_ ⟨by rw [h8, q3], q4.symm⟩ Z2.out
          · obtain rfl : k = n := by omega
            have e1 : fs.take k = fs := List.take_of_length_le (by rw [HN.out]; exact Nat.le_refl _)
            have e2 : vs.take k = vs := List.take_of_length_le (by rw [HN'.out]; exact Nat.le_refl _)
            have q0 := HM.out
            have q1 := HO.out
            rw [e1, e2] at q0 q1
            have Q0 := Lib.hid q0
            have Q1 := Lib.hid q1
            clear q0 q1 e1 e2
            by_cases hbig : 65535 < L
            · go_wp2
              go_ret2
              obtain ⟨q2, q3⟩ := putsE_big HCC.out HL.out (.inr (by rw [Q0.out.length]; exact hbig))
              exact TPost.none_ ⟨q2.symm, q3.symm⟩ HB.out
            · go_wp2
              go_ret2
              obtain ⟨q2, q3⟩ := putsE_ok HCC.out HL.out Q1.out (by rw [Q0.out.length]; omega)
              exact TPost.mine Q0.out ⟨q2.symm, q3.symm⟩ HB.out
  · go_enter Tryd.func27, Tryd.ntmps27
    go_wp2_with fail
    (with_reducible refine HC.out.mono ?_)
    rintro e w1 ⟨rfl, hb1⟩
    have B1 := Lib.hid hb1
    clear hb1
    go_wp2
    go_ret2
    exact TPost.none_ (by obtain ⟨q1, q2⟩ := putsE_chk (fs := fs) (vs := vs) (by rw [HCC.out]; exact hc); exact ⟨by rw [q1, HCC.out], q2.symm⟩) B1.out
end Go.Proofs.YtofccfbiappgaaaDoor
