/-
  What the document tells of pairs that rise: Get, Beginnings, Longest.
-/
import Derived.Test.YtfmkhafpbfmadaaGreatFnLong
import Derived.Test.YtfmkhafpbfmadaaGreatFnBegs
import Derived.Test.YtfmkhafpbfmadaaGreatCnLaw
import Derived.Test.YtfmkhafpbfmadaaGreatSort
import Derived.Test.YtfmkhafpbfmadaaGreatCanonQ
import Derived.Test.YtfmkhafpbfmadaaGreatDtBuild
namespace Go.Proofs.YtfmkhafpbfmadaaGreat
open Go.RowKit

def firstK : List KV → List UInt8 → Int × Bool
  | [], _ => (0, false)
  | p :: L, l => if p.1 = l then (p.2, true) else firstK L l
theorem firstK_cases (L : List KV) (l : List UInt8) : ((∀ p ∈ L, p.1 ≠ l) ∧ firstK L l = (0, false)) ∨ ∃ p ∈ L, p.1 = l ∧ firstK L l = (p.2, true) := by
  induction L with
  | nil => exact .inl ⟨fun _ h => (by cases h), rfl⟩
  | cons p L ih =>
    by_cases h : p.1 = l
    · exact .inr ⟨p, List.mem_cons_self .., h, by rw [firstK, if_pos h]⟩
    · rcases ih with ⟨h1, h2⟩ | ⟨q, h1, h2, h3⟩
      · refine .inl ⟨fun q hq => ?_, by rw [firstK, if_neg h]; exact h2⟩
        rcases List.mem_cons.1 hq with rfl | hq
        · exact h
        · exact h1 q hq
      · exact .inr ⟨q, List.mem_cons_of_mem _ h1, h2, by rw [firstK, if_neg h]; exact h3⟩
theorem first_get {L : List KV} (h : Rise L) (l : List UInt8) : firstK L l = getK L l := by
  rcases firstK_cases L l with ⟨h1, h2⟩ | ⟨p, h1, rfl, h3⟩
  · rw [h2, getK_none h1]
  · rw [h3, getK_mem h h1]
theorem drop_at {α : Type} {l : List α} {k : Nat} {a : α} (h : l[k]? = some a) : l.drop k = a :: l.drop (k + 1) := by
  obtain ⟨hq, e⟩ := List.getElem?_eq_some_iff.1 h
  rw [List.drop_eq_getElem_cons hq, e]
set_option maxRecDepth 100000 in
set_option maxHeartbeats 1000000 in
theorem rfget_any (A A' : Option Addr) (n c n' c' B : Nat) (ps : List PV) (key : List UInt8) (w : World) (ha : Prs w B A n ps) (hb : Byt w B A' n' key) (hn : n ≤ 1000000) :
    Calls Tryz.prog 12 #[.slice A n c, .slice A' n' c'] w fun e w' => e = .returned (.tuple #[.int .u64 (firstK (ps.map kvP) key).1, .bool (firstK (ps.map kvP) key).2]) ∧ Still w w' := by
  have HA := Lib.hid ha
  have HB := Lib.hid hb
  have HL := Lib.hid ha.1
  obtain ⟨r, hr⟩ : ∃ r, firstK (ps.map kvP) key = r := ⟨_, rfl⟩
  rw [hr]
  obtain ⟨r1, r2⟩ := r
  dsimp only
  have HE := Lib.hid hr
  clear ha hb hr
  go_enter Tryz.func12, Tryz.ntmps12
  go_wp2_with fail
  go_loopw [6] (fun i wr => ∃ k : Nat, k ≤ n ∧ i = .int .i64 (k : Int) ∧ Hid (firstK (ps.map kvP) key = firstK ((ps.drop k).map kvP) key) ∧ Still w wr) (fun i _ => n - (intOf i).toNat)
  case atStart => exact ⟨0, Nat.zero_le _, rfl, Lib.hid (by rw [List.drop_zero]), Still.refl _⟩
  case round =>
    obtain ⟨k, hk, rfl, HF, hs⟩ := hrel
    by_cases h1 : k < n
    · obtain ⟨q, rfl⟩ := hs
      obtain ⟨ad, p, rfl, hlt, e1, c1, c2, b1⟩ := HA.out.at_ h1
      rw [← add_of_add] at c2
      have c1' : (w.drewN q).cell? (ad.add (k * 2)) = some (.slice p.A p.n p.c) := c1
      have c2' : (w.drewN q).cell? ⟨(ad.add (k * 2)).block, (ad.add (k * 2)).off + 1, none⟩ = some (.int .u64 p.val) := c2
      have HD := Lib.hid (drop_at e1)
      have HS := rsame_any p.A A' p.n n' p.c c' B p.key key (w.drewN q) (b1.drewN q) (HB.out.drewN q)
      obtain ⟨sb, hsb⟩ : ∃ b, sameB p.key key = b := ⟨_, rfl⟩
      rw [hsb] at HS
      have HSB := Lib.hid hsb
      have HS := Lib.hid HS
      clear c1 c2 e1 b1 hsb
      go_wp2_with fail
      (with_reducible refine HS.out.mono ?_)
      rintro e w1 ⟨rfl, s1⟩
      obtain ⟨q1, rfl⟩ := s1
      have hst : Still w ((w.drewN q).drewN q1) := Still.trans ⟨q, rfl⟩ ⟨q1, rfl⟩
      generalize hw1 : (w.drewN q).drewN q1 = w1 at hst ⊢
      have c3 : w1.cell? ⟨(ad.add (k * 2)).block, (ad.add (k * 2)).off + 1, none⟩ = some (.int .u64 p.val) := by rw [← hw1]; exact c2'
      have HST := Lib.hid hst
      clear hw1 c1' c2' hst
      cases sb with
      | true =>
        have he : p.key = key := of_decide_eq_true HSB.out
        have hf : (r1, r2) = (p.val, true) := by
          rw [← HE.out, HF.out, HD.out, List.map_cons, firstK, if_pos he]
        injection hf with hf1 hf2
        subst hf1 hf2
        clear he
        go_wp2_with fail
        go_ret2
        exact ⟨rfl, HST.out⟩
      | false =>
        have he : p.key ≠ key := of_decide_eq_false HSB.out
        have HF2 := Lib.hid (show firstK (ps.map kvP) key = firstK ((ps.drop (k + 1)).map kvP) key from by
          rw [HF.out, HD.out, List.map_cons, firstK, if_neg he])
        clear he
        go_wp2_with fail
        exact ⟨⟨k + 1, by omega, by go_num, HF2, HST.out⟩, by simp [intOf]; omega⟩
    · obtain rfl : k = n := by omega
      have hf : (r1, r2) = ((0 : Int), false) := by
        rw [← HE.out, HF.out, List.drop_of_length_le (by have := HL.out; omega)]
        rfl
      injection hf with hf1 hf2
      subst hf1 hf2
      go_wp2_with fail
      go_ret2
      exact ⟨rfl, hs⟩
abbrev begP (key : List UInt8) (ps : List PV) : List PV := ps.filter fun p => begB key p.key
theorem begP_succ {ps : List PV} {key : List UInt8} {k : Nat} {p : PV} (h : ps[k]? = some p) : begP key (ps.take (k + 1)) = if begB key p.key = true then begP key (ps.take k) ++ [p] else begP key (ps.take k) := by
  rw [List.take_add_one, h]
  unfold begP
  rw [List.filter_append]
  split <;> rename_i q <;> simp [q]
theorem Kps.filt {w : World} {B : Nat} {ps : List PV} (h : Kps w B ps) (key : List UInt8) : Kps w B (begP key ps) := fun p hp => h p (List.mem_filter.1 hp).1
theorem begP_len (key : List UInt8) (ps : List PV) (k : Nat) : (begP key (ps.take k)).length ≤ k := by
  exact Nat.le_trans (List.length_filter_le _ _) (by rw [List.length_take]; exact Nat.min_le_left _ _)
set_option maxRecDepth 100000 in
set_option maxHeartbeats 1000000 in
theorem rfbegs_any (A A' : Option Addr) (n c n' c' B : Nat) (ps : List PV) (key : List UInt8) (w : World) (ha : Prs w B A n ps) (hk : Kps w B ps) (hb : Byt w B A' n' key) (hB : B ≤ w.heap.size) (hn : n ≤ 1000000) :
    Calls Tryz.prog 16 #[.slice A n c, .slice A' n' c'] w fun e w' => ∃ A2 c2 m, e = .returned (.slice A2 m c2) ∧ m ≤ c2 ∧ Prs w' w'.heap.size A2 m (begP key ps) ∧ Kps w' B ps ∧ Below w.heap.size w w' := by
  have HA := Lib.hid (fun V (h : Below w.heap.size w V) => (ha.more hB).below h)
  have HK := Lib.hid (fun V (h : Below w.heap.size w V) => ((hk.more hB).below h).more h.size)
  have HKB := Lib.hid (fun V (h : Below w.heap.size w V) => hk.below (h.mono hB))
  have HB := Lib.hid (fun V (h : Below w.heap.size w V) => (hb.more hB).below h)
  have HN := Lib.hid ha.1
  clear ha hk hb
  go_enter Tryz.func16, Tryz.ntmps16
  go_wp2
  go_loopw [5, 6] (fun v i wr => ∃ k m : Nat, k ≤ n ∧ i = .int .i64 (k : Int) ∧ Hid ((begP key (ps.take k)).length = m) ∧ Hid (PRow wr w.heap.size 37 v m (begP key (ps.take k))) ∧ Hid (Below w.heap.size w wr)) (fun _ i _ => n - (intOf i).toNat)
  case atStart => exact ⟨0, 0, Nat.zero_le _, rfl, Lib.hid rfl, Lib.hid (MineR.nil _ _ _ _), Lib.hid (Below.refl _ _)⟩
  case round =>
    obtain ⟨k, m, hk, rfl, HM, HR, HBL⟩ := hrel
    obtain ⟨A1, cp1, rfl, hcp⟩ := MineR.slice HR.out
    by_cases h1 : k < n
    · obtain ⟨ad, p, rfl, hlt, e1, c1, c2, b1⟩ := (HA.out _ HBL.out).at_ h1
      rw [← add_of_add] at c2
      have c2' : wr.cell? ⟨(ad.add (k * 2)).block, (ad.add (k * 2)).off + 1, none⟩ = some (.int .u64 p.val) := c2
      have HG := rbegins_any A' p.A n' p.n c' p.c w.heap.size key p.key wr (HB.out _ HBL.out) b1
      obtain ⟨bb, hbb⟩ : ∃ b, begB key p.key = b := ⟨_, rfl⟩
      rw [hbb] at HG
      have HT := Lib.hid (begP_succ (key := key) e1)
      rw [hbb] at HT
      have HG := Lib.hid HG
      have hml : m ≤ k := by rw [← HM.out]; exact begP_len key ps k
      have HML := Lib.hid hml
      clear c2 e1 b1 hbb hml
      go_wp2_with fail
      (with_reducible refine HG.out.mono ?_)
      rintro e w1 ⟨rfl, s1⟩
      obtain ⟨q1, rfl⟩ := s1
      have c3 : (wr.drewN q1).cell? (ad.add (k * 2)) = some (.slice p.A p.n p.c) := c1
      have c4 : (wr.drewN q1).cell? ⟨(ad.add (k * 2)).block, (ad.add (k * 2)).off + 1, none⟩ = some (.int .u64 p.val) := c2'
      have HB1 := Lib.hid (HBL.out.trans (Still.below ⟨q1, rfl⟩ _))
      have HR1 := Lib.hid (show PRow (wr.drewN q1) w.heap.size 37 (.slice A1 m cp1) m (begP key (ps.take k)) from MineR.still HR.out ⟨q1, rfl⟩)
      generalize wr.drewN q1 = w1 at c3 c4 HB1 HR1 ⊢
      clear c1 c2' HG HR
      cases bb with
      | false =>
        go_wp2_with fail
        have ht : begP key (ps.take (k + 1)) = begP key (ps.take k) := by rw [HT.out]; simp
        exact ⟨⟨k + 1, m, by omega, by go_num, Lib.hid (by rw [ht]; exact HM.out), by rw [ht]; exact HR1, HB1⟩, by simp [intOf]; omega⟩
      | true =>
        have HX := Lib.hid (fun (o1 : Obj) => MineR.alloc HR1.out o1)
        have HS := Lib.hid (fun (o1 : Obj) => show Below w.heap.size w (w1.alloc o1) from HB1.out.alloc HB1.out.size _)
        have hsz := HB1.out.size
        have HY := Lib.hid (show ∀ (j : Nat) (u : Value), (pvc p)[j]? = some u → (w1.alloc (.cells #[.slice p.A p.n p.c, .int .u64 p.val] 37)).cell? ((⟨w1.heap.size, 0, none⟩ : Addr).add j) = some u from pair_cells (Blk.new w1 37 #[.slice p.A p.n p.c, .int .u64 p.val]))
        go_wp2_with (at_builtin
                     refine wpList_append_rws (w1.alloc (.cells #[.slice p.A p.n p.c, .int .u64 p.val] 37)) rfl (.tmp 20) (.tmp 25) _ rfl Tryz.underlying22 info_kpair (by rfl) (by decide) w.heap.size (.slice A1 m cp1) m ((begP key (ps.take k)).map pvc) rfl (HX.out _) ⟨w1.heap.size, 0, none⟩ 1 (pvc p) rfl rfl HY.out (pair_one p) (by have := HML.out; omega) (by have := HML.out; unfold maxLen; omega) (by simp; omega) ?_
                     intro v2 w2 hm2 hg2 _
                     have M2 := Lib.hid hm2
                     have C2 := Lib.hid (below_grown (HS.out _) (HX.out _) hg2 (Nat.le_refl _) (by simp; omega))
                     clear hm2 hg2)
        go_wp2
        have ht : begP key (ps.take (k + 1)) = begP key (ps.take k) ++ [p] := by rw [HT.out]; simp
        exact ⟨⟨k + 1, m + 1, by omega, by go_num, Lib.hid (by rw [ht, List.length_append, HM.out]; rfl), Lib.hid (show MineR _ _ _ 2 _ _ ((begP key (ps.take (k + 1))).map pvc) from by rw [ht, List.map_append]; exact M2.out), C2⟩, by simp [intOf]; omega⟩
    · obtain rfl : k = n := by omega
      have hps : ps.take k = ps := List.take_of_length_le (by rw [HN.out]; exact Nat.le_refl _)
      have HP := Lib.hid (show Prs wr wr.heap.size A1 m (begP key ps) from by
        have h2 := HR.out
        rw [hps] at h2
        exact PRow.prs h2 ((HK.out _ HBL.out).filt key))
      clear hps
      go_wp2
      go_ret
      exact ⟨A1, cp1, m, rfl, hcp, HP.out, HKB.out _ HBL.out, HBL.out⟩
/-- The last one of pairs. -/
def lastP (ps : List PV) : List UInt8 × Int × Bool := match ps.getLast? with
  | none => ([], 0, false)
  | some p => (p.key, p.val, true)
set_option maxRecDepth 100000 in
theorem kpair_load {W : World} {g : Nat} {a b : Value} (h : Blk W g #[a, b]) : (loadVar 37 ⟨g, 0, none⟩).run Tryz.prog W = .ok (.agg #[a, b]) W := by
  refine run_loadVar_mid W g 0 37 [a, b] _ (fun j v hv => ?_) Tryz.underlying37 rfl size_kpair
  rw [Nat.zero_add]
  match j, hv with
  | 0, hv => simp at hv; subst hv; exact h.cell 0
  | 1, hv => simp at hv; subst hv; exact h.cell 1
set_option maxRecDepth 100000 in
set_option maxHeartbeats 1000000 in
theorem rflong_any (A A' : Option Addr) (n c n' c' B : Nat) (ps : List PV) (key : List UInt8) (w : World) (ha : Prs w B A n ps) (hk : Kps w B ps) (hb : Byt w B A' n' key) (hB : B ≤ w.heap.size) (hn : n ≤ 1000000) :
    Calls Tryz.prog 14 #[.slice A n c, .slice A' n' c'] w fun e w' => ∃ A2 n2 c2, e = .returned (.tuple #[.agg #[.slice A2 n2 c2, .int .u64 (lastP (begP key ps)).2.1], .bool (lastP (begP key ps)).2.2]) ∧ Byt w' w'.heap.size A2 n2 (lastP (begP key ps)).1 ∧ Below w.heap.size w w' := by
  obtain ⟨W, hW⟩ : ∃ W, w.alloc (.cells #[.slice none 0 0, .int .u64 0] 37) = W := ⟨_, rfl⟩
  have b0 : Below w.heap.size w W := by rw [← hW]; exact (Below.refl _ _).alloc (Nat.le_refl _) _
  have k0 : Blk W w.heap.size #[.slice none 0 0, .int .u64 0] := by rw [← hW]; exact Blk.new w _ _
  have HR := Lib.hid (rfbegs_any A A' n c n' c' B ps key W (ha.below (b0.mono hB)) (hk.below (b0.mono hB)) (hb.below (b0.mono hB)) (Nat.le_trans hB b0.size) hn)
  have HW := Lib.hid hW
  have B0 := Lib.hid b0
  have K0 := Lib.hid k0
  obtain ⟨qs, hqs⟩ : ∃ qs, begP key ps = qs := ⟨_, rfl⟩
  rw [hqs] at HR ⊢
  obtain ⟨r, hr⟩ : ∃ r, lastP qs = r := ⟨_, rfl⟩
  rw [hr]
  obtain ⟨r1, r2, r3⟩ := r
  dsimp only
  have HE := Lib.hid hr
  have HQS := Lib.hid hqs
  clear ha hk hb hW b0 k0 hr hqs
  go_enter Tryz.func14, Tryz.ntmps14
  go_wp2_with fail
  rw [HW.out]
  (with_reducible refine HR.out.mono ?_)
  rintro e w1 ⟨A2, c2, m, rfl, hmc, p1, q1, b1⟩
  have hml : qs.length = m := p1.1
  have K1 := Lib.hid (K0.out.below b1 K0.out.lt)
  have B1 := Lib.hid (B0.out.trans (b1.mono B0.out.size))
  have P1 := Lib.hid p1
  have QK := Lib.hid (show Kps w1 B qs from HQS.out ▸ q1.filt key)
  have d0 := K1.out.cell 0
  have d1 := K1.out.cell 1
  have f0 := K1.out.fz 0
  have f1 := K1.out.fz 1
  have HQ := Lib.hid (show w.heap.size < w1.heap.size from Nat.lt_of_lt_of_le K0.out.lt b1.size)
  have HML := Lib.hid hml
  have hmx : m ≤ 9223372036854775807 := by have := p1.2.1; unfold maxLen at this; omega
  clear p1 q1 b1 HR hml
  by_cases hm : m = 0
  · subst hm
    have hq0 : qs = [] := List.eq_nil_of_length_eq_zero HML.out
    have hl : (r1, r2, r3) = (([] : List UInt8), (0 : Int), false) := by rw [← HE.out, hq0]; rfl
    injection hl with hl1 hl2
    injection hl2 with hl2 hl3
    subst hl1 hl2 hl3
    clear hq0
    go_wp2_with fail
    obtain ⟨t1, t2⟩ := two_set K1.out (.slice none 0 0) (.int .u64 0)
    exact close2e rfl rfl rfl rfl (kpair_load t1) ⟨none, 0, 0, rfl, Byt.none_, B1.out.trans (t2.below (Nat.le_of_lt HQ.out) (fun i e => by omega))⟩
  · obtain ⟨j, rfl⟩ : ∃ j, m = j + 1 := ⟨m - 1, by omega⟩
    obtain ⟨ad, p, rfl, hlt, e1, c1, c2', b1⟩ := P1.out.at_ (Nat.lt_succ_self j)
    rw [← add_of_add] at c2'
    have c3 : w1.cell? ⟨(ad.add (j * 2)).block, (ad.add (j * 2)).off + 1, none⟩ = some (.int .u64 p.val) := c2'
    have hlast : (r1, r2, r3) = (p.key, p.val, true) := by
      rw [← HE.out]
      unfold lastP
      rw [List.getLast?_eq_getElem?, HML.out, Nat.add_sub_cancel, e1]
    have hne : (((j + 1 : Nat) : Int) == 0) = false := by rw [beq_eq_false_iff_ne]; omega
    have ew : IntKind.i64.wrap (((j + 1 : Nat) : Int) - 1) = (j : Int) := by rw [IntKind.wrap_i64]; omega
    injection hlast with hl1 hl2
    injection hl2 with hl2 hl3
    subst hl1 hl2 hl3
    have PB := Lib.hid (QK.out p (List.mem_of_getElem? e1))
    have HBB := Lib.hid hB
    clear b1 e1 c2' hm
    go_wp2_with fail
    obtain ⟨t1, t2⟩ := two_set K1.out (.slice p.A p.n p.c) (.int .u64 p.val)
    have y := ((PB.out.1.below (t2.below (B := B) (Nat.le_trans HBB.out (Nat.le_of_lt HQ.out)) (fun i e => by have := HBB.out; omega))).more (Nat.le_trans HBB.out (Nat.le_trans (Nat.le_of_lt HQ.out) t2.size)))
    exact close2e rfl rfl rfl rfl (kpair_load t1) ⟨p.A, p.n, p.c, rfl, y, B1.out.trans (t2.below (Nat.le_of_lt HQ.out) (fun i e => by omega))⟩
end Go.Proofs.YtfmkhafpbfmadaaGreat
