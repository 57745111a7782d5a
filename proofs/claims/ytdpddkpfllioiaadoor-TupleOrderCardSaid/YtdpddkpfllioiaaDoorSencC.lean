/-
  What senc.text, Take and the document's Take answer.
-/
import Derived.Test.YtdpddkpfllioiaaDoorSencB
namespace Go.Proofs.YtdpddkpfllioiaaDoor
open Go.RowKit

set_option maxHeartbeats 1000000 in
theorem text_any (A : Option Addr) (n c B : Nat) (t : List UInt8) (w : World) (ha : Byt w B A n (escL t)) (hB : B ≤ w.heap.size) (hn : n ≤ 1099511627776) :
    Calls Tryd.prog 106 #[.slice A n c] w (SlPost w t) := by
  have HN := Lib.hid ha.1
  have hmk : ∀ W : World, (Instr.makeSlice 26 (.int .i64 0) (.int .i64 (n : Int))).run Tryd.prog W = .ok (.slice (some ⟨W.heap.size, 0, none⟩) 0 n) (W.alloc (.cells (bvs (List.replicate n 0)) 5)) := make_room (P := Tryd.prog) Tryd.underlying26 info_u8 n (by omega)
  go_enter Tryd.func106, Tryd.ntmps106
  go_wp2
  refine wp_scope_label 0 (fun a' w' => ∃ (k m : Nat) (v : Value), k ≤ n ∧ m ≤ t.length ∧ k = (escL (t.take m)).length ∧ Mine w' w.heap.size 5 v m (t.take m) ∧ Below w.heap.size w w' ∧ ∃ (u1 u2 u5 u6 u7 u8 u9 u10 u11 u12 u13 u14 u15 u16 u17 u18 u19 u20 u21 u22 u23 u24 u25 u26 : Value), a' = { tmps := #[.slice A n c, u1, u2, v, .int .i64 (k : Int), u5, u6, u7, u8, u9, u10, u11, u12, u13, u14, u15, u16, u17, u18, u19, u20, u21, u22, u23, u24, u25, u26], defers := [] }) (fun a' _ => n - (intOf (a'.tmps.getD 4 undef)).toNat) rfl ?_ ?_
  · intro HX
    go_wp2
    go_step3
    rename_i K hK
    exact hK _ _ (HX.out _ _ ⟨0, 0, _, Nat.zero_le _, Nat.zero_le _, rfl, Mine.made _ _ _ _ (by unfold maxLen; omega) (Nat.le_refl _), (Below.refl _ _).alloc (Nat.le_refl _) _, _, _, _, _, _, _, _, _, _, _, _, _, _, _, _, _, _, _, _, _, _, _, _, _, rfl⟩)
  · clear hmk
    rintro a' wr ⟨k, m, v, hk, hmt, hm, hmine, hbel, u1, u2, u5, u6, u7, u8, u9, u10, u11, u12, u13, u14, u15, u16, u17, u18, u19, u20, u21, u22, u23, u24, u25, u26, rfl⟩
    have hmk : m ≤ k := by rw [hm]; exact take_len_le t m hmt
    have hsz := hbel.size
    have HMI := Lib.hid hmine
    have HW := Lib.hid hbel
    have HM := Lib.hid hm
    have HT := Lib.hid hmt
    have HA := Lib.hid (ha.more hB)
    clear hmine hbel hm hmt
    by_cases h1 : k = n
    · subst h1
      go_wp2
      simp only [Exit.jump]
      go_ret
      exact SlPost.mine HMI.out (escL_full (by rw [← HM.out, HN.out])) HW.out
    · obtain ⟨ad, u, rfl, hu1, hu2, hu3⟩ := (HA.out.below HW.out).at_ (k := k) (by omega)
      have hmt : m < t.length := by
        rcases Nat.lt_or_ge m t.length with q | q
        · exact q
        · exfalso
          have h2 := HM.out
          have h3 := HN.out
          rw [List.take_of_length_le q] at h2
          omega
      have hum : t[m]? = some u := by
        have h2 := escL_at (List.getElem?_eq_getElem hmt)
        rw [← HM.out, hu2] at h2
        rw [List.getElem?_eq_getElem hmt]; exact h2.symm
      have HU := Lib.hid hu2
      have HV := Lib.hid hum
      have hz := sizN_le u
      have hkn : k + sizN u ≤ n := by
        have h2 := escL_siz hum
        have h3 := escL_le t (m + 1)
        have := HM.out
        have := HN.out
        omega
      have hz1 : 1 ≤ sizN u := by unfold sizN; split <;> omega
      clear hu2 hum
      have e1 : ((k : Int) == n) = false := by rw [beq_eq_false_iff_ne]; omega
      go_wp2_with (first
        | (at_builtin
           refine wpList_append_byt _ rfl (.tmp 13) (.tmp 18) _ rfl Tryd.underlying26 info_u8 w.heap.size _ m _ rfl (HMI.out.alloc _) (wr.heap.size + 1) (some ⟨wr.heap.size, 0, none⟩) 1 1 [u] rfl (byt_one wr _ rfl) (by omega) (by simp; omega) ?_
           intro v1 w1 hm1 hg1 _
           have HM1 := Lib.hid hm1
           have HB1 := Lib.hid ((HW.out.alloc hsz _).grown hg1 (by simp; omega) (fun j hj => (HMI.out.lt j hj).1))
           have hs1 := HB1.out.size
           have hc1 : w1.cell? (ad.add k) = some (.int .u8 (u.toNat : Int)) := by
             obtain ⟨ad', u', q1, _, q2, q3⟩ := (HA.out.below HB1.out).at_ (k := k) (by omega)
             injection q1 with q1
             subst q1
             rw [HU.out] at q2
             injection q2 with q2
             subst q2
             exact q3
           clear hm1 hg1)
        | (go_at_call 102; refine (size_any u _).mono ?_; rintro e w' ⟨rfl, rfl⟩))
      go_step3
      refine ⟨rfl, ⟨k + sizN u, m + 1, _, hkn, hmt, by rw [escL_siz HV.out, HM.out], ?_, HB1.out, _, _, _, _, _, _, _, _, _, _, _, _, _, _, _, _, _, _, _, _, _, _, _, _, rfl⟩, by simp [intOf]; omega⟩
      have e3 : t.take (m + 1) = t.take m ++ [u] := by
        obtain ⟨hk', q⟩ := List.getElem?_eq_some_iff.1 HV.out
        rw [List.take_succ_eq_append_getElem hk', q]
      rw [e3]
      exact HM1.out

/-- What Take leaves: the text, the others, and an error. -/
def STakePost (w : World) (t r : List UInt8) (er : Int) (e : Ending) (w' : World) : Prop :=
  ∃ A n c A' n' c', e = .returned (.tuple #[.slice A n c, .slice A' n' c', .int .i64 er]) ∧ Byt w' w'.heap.size A n t ∧ Byt w' w'.heap.size A' n' r ∧ n ≤ c ∧ n' ≤ c' ∧ Below w.heap.size w w'
theorem STakePost.none_ {w : World} {l : List UInt8} {e : Int} (h : scan l = .bad e) : STakePost w (scan l).T ((scan l).R l) (scan l).E (.returned (.tuple #[.slice none 0 0, .slice none 0 0, .int .i64 e])) w := by
  rw [h]
  exact ⟨_, _, _, _, _, _, rfl, Byt.none_, Byt.none_, Nat.le_refl _, Nat.le_refl _, Below.refl _ _⟩

set_option maxHeartbeats 1000000 in
theorem stake_any (A : Option Addr) (n c B : Nat) (l : List UInt8) (w : World) (ha : Byt w B A n l) (hnc : n ≤ c) (hB : B ≤ w.heap.size) (hn : n ≤ 1099511627776) :
    Calls Tryd.prog 89 #[.slice A n c] w (STakePost w (scan l).T ((scan l).R l) (scan l).E) := by
  have HN := Lib.hid ha.1
  have HE := Lib.hid (end_any A n c B l w ha)
  cases hs : scan l with
  | bad er =>
    rw [← hs]
    have HS := Lib.hid hs
    have e0 : er ≠ 0 := fun q => by
      obtain ⟨t, z, h⟩ := scan_E l (by rw [hs]; exact q)
      rw [hs] at h; cases h
    rw [hs] at HE
    have HE' : Hid (Calls Tryd.prog 105 #[.slice A n c] w fun e w' => e = .returned (.tuple #[.int .i64 0, .int .i64 er]) ∧ w = w') := HE
    have e1 : (er != 0) = true := by rw [bne_iff_ne]; exact e0
    clear hs HE
    go_enter Tryd.func89, Tryd.ntmps89
    go_wp2_with fail
    (with_reducible refine HE'.out.mono ?_)
    rintro e w' ⟨rfl, rfl⟩
    go_wp2
    go_ret3
    exact STakePost.none_ HS.out
  | ok t z =>
    obtain ⟨hz1, hz2, hz3⟩ := scan_len hs
    rw [hs] at HE
    obtain ⟨y, hy⟩ : ∃ y, z = y + 2 := ⟨z - 2, by omega⟩
    subst hy
    obtain ⟨j, hj⟩ : ∃ j, n = y + 2 + j := ⟨n - (y + 2), by have := HN.out; omega⟩
    subst hj
    have HE' : Hid (Calls Tryd.prog 105 #[.slice A (y + 2 + j) c] w fun e w' => e = .returned (.tuple #[.int .i64 ((y : Int) + 2), .int .i64 0]) ∧ w = w') := HE
    have HT := Lib.hid (show l.take y = escL t from hz3)
    clear HE hz1 hz2 hz3
    show Calls Tryd.prog 89 #[.slice A (y + 2 + j) c] w (STakePost w t (l.drop (y + 2)) 0)
    clear hs
    obtain ⟨ad, u, rfl, _, _, _⟩ := ha.at_ (k := 0) (by omega)
    have q1 : ((y : Int) + 2 + j - (y + 2)) = j := by omega
    have hmk : ∀ W : World, (Instr.makeSlice 26 (.int .i64 (j : Int)) (.int .i64 (j : Int))).run Tryd.prog W = .ok (.slice (some ⟨W.heap.size, 0, none⟩) j j) (W.alloc (.cells (bvs (List.replicate j 0)) 5)) := make_bytes (P := Tryd.prog) Tryd.underlying26 info_u8 j (by omega)
    obtain ⟨A', hsl0, hby⟩ := slice_from (P := Tryd.prog) Tryd.underlying26 size_u8 ad (y + 2) j c hnc
    have hsl : ∀ W : World, (Instr.slice 26 (.slice (some ad) (y + 2 + j) c) (some (.int .i64 ((y : Int) + 2))) none none).run Tryd.prog W = .ok (.slice A' j (c - (y + 2))) W := hsl0
    obtain ⟨w3, hcp, hrow, hbel⟩ := run_copy_byt (P := Tryd.prog) (w.alloc (.cells (bvs (List.replicate j 0)) 5)) (dT := 26) (sT := 26) 3 Tryd.underlying26 size_u8 w.heap.size j j A' j (c - (y + 2)) B (List.replicate j 0) (l.drop (y + 2)) (Row.new _ _ _) (by simp) ((hby _ _ _ ha).alloc hB _)
    have hrow' : Row w3 w.heap.size 5 (l.drop (y + 2)) := by
      rwa [show (List.replicate j (0 : UInt8)).drop j = [] from by simp, List.append_nil, List.take_of_length_le (by have := HN.out; simp; omega)] at hrow
    have HROW := Lib.hid hrow'
    have HB3 := Lib.hid (((Below.refl w.heap.size w).alloc (Nat.le_refl _) _).trans hbel)
    have HP := Lib.hid (show Byt w3 w3.heap.size (some ad) y (escL t) from by
      rw [← HT.out]
      exact ((((ha.more hB).below HB3.out).more HB3.out.size).take (by omega)))
    clear hby hrow hrow' hbel hsl0
    go_enter Tryd.func89, Tryd.ntmps89
    go_wp2_with fail
    (with_reducible refine HE'.out.mono ?_)
    rintro e w' ⟨rfl, rfl⟩
    go_wp2_with fail
    (with_reducible refine (text_any _ _ _ _ t _ HP.out (Nat.le_refl _) (by omega)).mono ?_)
    rintro e w4 ⟨A4, n4, c4, rfl, y4, hc4, h4⟩
    have B4 := Lib.hid (HB3.out.trans (h4.mono HB3.out.size))
    have Y4 := Lib.hid y4
    have R4 := Lib.hid (HROW.out.below h4 HROW.out.lt)
    clear h4 y4
    go_wp2
    go_ret3
    exact ⟨_, _, _, _, _, _, rfl, Y4.out, R4.out.byt (by have := HN.out; simp; omega) (by unfold maxLen; omega) R4.out.lt, hc4, Nat.le_refl _, B4.out⟩

/-- What the document's Take leaves: the text, how many bytes, and an error. -/
def RTakePost (w : World) (t : List UInt8) (z er : Int) (e : Ending) (w' : World) : Prop :=
  ∃ A n c, e = .returned (.tuple #[.slice A n c, .int .i64 z, .int .i64 er]) ∧ Byt w' w'.heap.size A n t ∧ Below w.heap.size w w' ∧ n ≤ c
theorem RTakePost.bad {w w' : World} {s : Scn} {e : Int} (h : s = .bad e) (hb : Below w.heap.size w w') : RTakePost w s.T s.N s.E (.returned (.tuple #[.slice none 0 0, .int .i64 0, .int .i64 e])) w' := by
  subst h
  exact ⟨_, _, _, rfl, Byt.none_, hb, Nat.le_refl _⟩
theorem RTakePost.ok {w w' : World} {s : Scn} {o : List UInt8} {k m base : Nat} {e : TypeId} {v : Value} (h : s = .ok o (k + 2)) (hm : Mine w' base e v m o) (hb : Below w.heap.size w w') : RTakePost w s.T s.N s.E (.returned (.tuple #[v, .int .i64 ((k : Int) + 2), .int .i64 0])) w' := by
  subst h
  obtain ⟨A, c, rfl⟩ := hm.slice
  exact ⟨_, _, _, rfl, hm.byt, hb, hm.room⟩

set_option maxHeartbeats 1000000 in
theorem rstake_any (A : Option Addr) (n c B : Nat) (l : List UInt8) (w : World) (ha : Byt w B A n l) (hB : B ≤ w.heap.size) (hn : n ≤ 1099511627776) :
    Calls Tryd.prog 93 #[.slice A n c] w (RTakePost w (scan l).T (scan l).N (scan l).E) := by
  have HN := Lib.hid ha.1
  go_enter Tryd.func93, Tryd.ntmps93
  go_wp2
  go_loopw [5, 6] (fun v i wr => ∃ (k m : Nat) (o : List UInt8), k ≤ n ∧ m ≤ k ∧ i = .int .i64 k ∧ At l o k ∧ Mine wr w.heap.size 5 v m o ∧ Below w.heap.size w wr) (fun _ i _ => n - (intOf i).toNat)
  case atStart => exact ⟨0, 0, [], Nat.zero_le _, Nat.le_refl _, rfl, At.start l, Mine.nil _ _ _, Below.refl _ _⟩
  case round =>
    obtain ⟨k, m, o, hk, hmk, rfl, hat, hmine, hbel⟩ := hrel
    have hsz := hbel.size
    have HMI := Lib.hid hmine
    have HW := Lib.hid hbel
    have HT := Lib.hid hat
    have HA := Lib.hid (ha.more hB)
    clear hmine hbel hat
    by_cases h1 : k < n
    · obtain ⟨ad, u, rfl, hu1, hu2, hu3⟩ := (HA.out.below HW.out).at_ (k := k) (by omega)
      have HU := Lib.hid hu2
      clear hu2
      by_cases h2 : u = 0
      · subst h2
        by_cases h3 : k + 1 = n
        · have e2 : ((k : Int) + 1 == n) = true := by rw [beq_iff_eq]; omega
          go_wp2
          go_ret3
          exact RTakePost.bad (HT.out.half HU.out (by have := HN.out; omega)) HW.out
        · have e2 : ((k : Int) + 1 == n) = false := by rw [beq_eq_false_iff_ne]; omega
          obtain ⟨ad', v', hq, hv1, hv2, hv3⟩ := (HA.out.below HW.out).at_ (k := k + 1) (by omega)
          injection hq with hq
          subst hq
          have HV := Lib.hid hv2
          have hv4 : wr.cell? ⟨ad.block, ad.off + (k + 1), none⟩ = some (.int .u8 (v'.toNat : Int)) := hv3
          clear hv2 hv3
          by_cases h4 : v' = 0
          · subst h4
            go_wp2
            go_ret3
            exact RTakePost.ok (HT.out.done HU.out HV.out) HMI.out HW.out
          · have e3 : ((v'.toNat : Int) == 0) = false := ne0 h4
            by_cases h5 : v' = 255
            · subst h5
              go_wp2_with (
                at_builtin
                refine wpList_append_byt _ rfl (.tmp 45) (.tmp 46) _ rfl Tryd.underlying26 info_u8 w.heap.size _ m _ rfl (HMI.out.alloc _) (wr.heap.size + 1) (some ⟨wr.heap.size, 0, none⟩) 1 1 [0] rfl (byt_one wr _ rfl) (by omega) (by simp; omega) ?_
                intro v1 w1 hm1 hg1 _
                have HM1 := Lib.hid hm1
                have HB1 := Lib.hid ((HW.out.alloc hsz _).grown hg1 (by simp; omega) (fun j hj => (HMI.out.lt j hj).1))
                have hs1 := HB1.out.size
                clear hm1 hg1)
              exact ⟨⟨k + 2, m + 1, _, by omega, by omega, by go_num, HT.out.two HU.out HV.out, HM1.out, HB1.out⟩, by simp [intOf]; omega⟩
            · have e4 : ((v'.toNat : Int) != 255) = true := by rw [bne, ne255 h5]; rfl
              go_wp2
              go_ret3
              exact RTakePost.bad (HT.out.form HU.out HV.out h4 h5) HW.out
      · have e2 : ((u.toNat : Int) != 0) = true := bne0 h2
        go_wp2_with (
          at_builtin
          refine wpList_append_byt _ rfl (.tmp 16) (.tmp 21) _ rfl Tryd.underlying26 info_u8 w.heap.size _ m _ rfl (HMI.out.alloc _) (wr.heap.size + 1) (some ⟨wr.heap.size, 0, none⟩) 1 1 [u] rfl (byt_one wr _ rfl) (by omega) (by simp; omega) ?_
          intro v1 w1 hm1 hg1 _
          have HM1 := Lib.hid hm1
          have HB1 := Lib.hid ((HW.out.alloc hsz _).grown hg1 (by simp; omega) (fun j hj => (HMI.out.lt j hj).1))
          have hs1 := HB1.out.size
          clear hm1 hg1)
        exact ⟨⟨k + 1, m + 1, _, by omega, by omega, by go_num, HT.out.one HU.out h2, HM1.out, HB1.out⟩, by simp [intOf]; omega⟩
    · go_wp2
      go_ret3
      exact RTakePost.bad (HT.out.none_ (by have := HN.out; omega)) HW.out
end Go.Proofs.YtdpddkpfllioiaaDoor
