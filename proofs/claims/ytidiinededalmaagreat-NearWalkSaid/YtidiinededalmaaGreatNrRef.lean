/-
  The document's Min, Max, Floor, Ceil, Lower, Higher of pairs that rise.
-/
import Derived.Test.YtidiinededalmaaGreatNrQ
import Derived.Test.YtidiinededalmaaGreatFnP
import Derived.Test.YtidiinededalmaaGreatPairE
import Derived.Test.YtidiinededalmaaGreatSort
import Derived.Test.YtidiinededalmaaGreatCanonQ
import Derived.Test.YtidiinededalmaaGreatCmp
import Derived.Test.YtidiinededalmaaGreatNd
namespace Go.Proofs.YtidiinededalmaaGreat
open Go.RowKit

/-- The pair at a place. -/
def atP (ps : List PV) (i : Int) : Option PV := if i < 0 then none else ps[i.toNat]?
def pvO (o : Option PV) : PV := match o with | some p => p | none => ⟨none, 0, 0, [], 0⟩
def RfPost (w : World) (o : Option PV) (e : Ending) (w' : World) : Prop :=
  e = .returned (.tuple #[.agg #[.slice (pvO o).A (pvO o).n (pvO o).c, .int .u64 (pvO o).val], .bool o.isSome]) ∧ Below w.heap.size w w'
set_option maxRecDepth 100000 in
theorem kpair_info : (Tryz.prog.info? 34).map (·.size) = some 2 := by kernel_rfl
set_option maxRecDepth 100000 in
theorem kpair_load {W : World} {g : Nat} {a b : Value} (h : Blk W g #[a, b]) : (loadVar 34 ⟨g, 0, none⟩).run Tryz.prog W = .ok (.agg #[a, b]) W := by
  refine run_loadVar_mid W g 0 34 [a, b] _ (fun j v hv => ?_) Tryz.underlying34 rfl kpair_info
  rw [Nat.zero_add]
  match j, hv with
  | 0, hv => simp at hv; subst hv; exact h.cell 0
  | 1, hv => simp at hv; subst hv; exact h.cell 1
set_option maxRecDepth 100000 in
theorem rat_any (A : Option Addr) (n c B : Nat) (ps : List PV) (i : Int) (w : World) (ha : Prs w B A n ps) (hB : B ≤ w.heap.size) (hi : -1 ≤ i) (o : Option PV) (ho : atP ps i = o) :
    Calls Tryz.prog 28 #[.slice A n c, .int .i64 i] w (RfPost w o) := by
  have HA := Lib.hid (ha.below (((Below.refl w.heap.size w).alloc (Nat.le_refl _) (.cells #[.slice none 0 0, .int .u64 0] 34)).mono hB))
  have HL := Lib.hid ha.1
  have HO := Lib.hid ho
  clear ha ho hB
  go_enter Tryz.func28, Tryz.ntmps28
  by_cases h0 : i < 0
  · have e1 : none = o := by rw [← HO.out]; unfold atP; rw [if_pos h0]
    subst e1
    go_wp2_with fail
    exact close2e rfl rfl rfl rfl (kpair_load (Blk.new w _ _)) ⟨rfl, (Below.refl _ _).alloc (Nat.le_refl _) _⟩
  · obtain ⟨k, rfl⟩ : ∃ k : Nat, i = (k : Int) := ⟨i.toNat, by omega⟩
    have e0 : atP ps (k : Int) = ps[k]? := by unfold atP; rw [if_neg (by omega)]; rfl
    by_cases h1 : k < n
    · obtain ⟨ad, p, rfl, hlt, e1, c1, c2, _⟩ := HA.out.at_ h1
      rw [← add_of_add] at c2
      have c2' : (w.alloc (.cells #[.slice none 0 0, .int .u64 0] 34)).cell? ⟨(ad.add (k * 2)).block, (ad.add (k * 2)).off + 1, none⟩ = some (.int .u64 p.val) := c2
      have e1 : some p = o := by rw [← HO.out, e0, e1]
      subst e1
      clear c2 e0
      go_wp2_with fail
      exact close2e rfl rfl rfl rfl (kpair_load (Blk.new w _ _)) ⟨rfl, (Below.refl _ _).alloc (Nat.le_refl _) _⟩
    · have e1 : none = o := by rw [← HO.out, e0]; exact (List.getElem?_eq_none (by rw [HL.out]; omega)).symm
      subst e1
      clear e0
      go_wp2_with fail
      exact close2e rfl rfl rfl rfl (kpair_load (Blk.new w _ _)) ⟨rfl, (Below.refl _ _).alloc (Nat.le_refl _) _⟩
theorem cmp_le : ∀ (l m : List UInt8), cmpL l m ≤ 0 ↔ ¬ cmpL m l < 0
  | [], [] => by simp [cmpL]
  | [], _ :: _ => by simp [cmpL]
  | _ :: _, [] => by simp [cmpL]
  | a :: l, b :: m => by
    rw [lt_cons]
    show (if a = b then cmpL l m else if a.toNat < b.toNat then (-1 : Int) else 1) ≤ 0 ↔ _
    by_cases e : a = b
    · subst e
      rw [if_pos rfl, cmp_le l m]
      simp
    · have h1 : a.toNat ≠ b.toNat := fun q => e (UInt8.toNat_inj.1 q)
      have h2 : ¬ b = a := fun q => e q.symm
      rw [if_neg e]
      split
      · simp [h2]; omega
      · simp [h2]; omega
theorem upto_lt (l key : List UInt8) : cmpL l (key ++ [0]) < 0 ↔ cmpL l key ≤ 0 := by rw [lt_next, cmp_le]
theorem rsn_kv {ps : List PV} (h : Rsn ps) : Rise (ps.map kvP) := by
  unfold Rise
  rw [List.pairwise_map]
  exact h
theorem ahead_of {L : List KV} (h : Rise L) {key : List UInt8} {k : Nat} (hk : k ≤ L.length) (h1 : ∀ (j : Nat) (p : KV), j < k → L[j]? = some p → cmpL p.1 key < 0) (h2 : ∀ p, L[k]? = some p → ¬ cmpL p.1 key < 0) : aheadN L key = k := by
  have e : ltL L key = L.take k := by
    conv => lhs; rw [← List.take_append_drop k L]
    rw [ltL_app, (lt_all (L := L.take k) (key := key) (fun p hp => by
      obtain ⟨j, hj⟩ := List.mem_iff_getElem?.1 hp
      rw [List.getElem?_take] at hj
      split at hj
      · exact h1 j p (by assumption) hj
      · cases hj)).2, (ge_all (L := L.drop k) (key := key) (fun p hp => by
      obtain ⟨j, hj⟩ := List.mem_iff_getElem?.1 hp
      rw [List.getElem?_drop] at hj
      rcases Nat.eq_zero_or_pos j with q | q
      · subst q; exact h2 p hj
      · intro z
        obtain ⟨q1, q2⟩ := List.getElem?_eq_some_iff.1 hj
        have hk2 : k < L.length := by omega
        have h4 := List.pairwise_iff_getElem.1 h k (k + j) hk2 q1 (by omega)
        rw [q2] at h4
        exact h2 _ (List.getElem?_eq_getElem hk2) (lt_trans h4 z))).2, List.append_nil]
  unfold aheadN
  rw [e, List.length_take]
  omega
set_option maxRecDepth 100000 in
set_option maxHeartbeats 1000000 in
theorem rahead_any (A A' : Option Addr) (n c n' c' B : Nat) (ps : List PV) (key : List UInt8) (w : World) (ha : Prs w B A n ps) (hb : Byt w B A' n' key) (hn : n ≤ 1000000) (hr : Rsn ps) :
    Calls Tryz.prog 39 #[.slice A n c, .slice A' n' c'] w fun e w' => e = .returned (.int .i64 (aheadN (ps.map kvP) key : Int)) ∧ Still w w' := by
  have HA := Lib.hid ha
  have HB := Lib.hid hb
  have HL := Lib.hid ha.1
  obtain ⟨r, hr1⟩ : ∃ r, aheadN (ps.map kvP) key = r := ⟨_, rfl⟩
  rw [hr1]
  have HR := Lib.hid (And.intro hr1 (rsn_kv hr))
  clear ha hb hr1 hr
  go_enter Tryz.func39, Tryz.ntmps39
  go_wp2_with fail
  go_loopw [5] (fun i wr => ∃ k : Nat, k ≤ n ∧ i = .int .i64 (k : Int) ∧ Hid (∀ (j : Nat) (p : PV), j < k → ps[j]? = some p → cmpL p.key key < 0) ∧ Still w wr) (fun i _ => n - (intOf i).toNat)
  case atStart => exact ⟨0, Nat.zero_le _, rfl, Lib.hid (fun j p hj => by omega), Still.refl _⟩
  case round =>
    obtain ⟨k, hk, rfl, HF, hs⟩ := hrel
    by_cases h1 : k < n
    · obtain ⟨q, rfl⟩ := hs
      obtain ⟨ad, p, rfl, hlt, e1, c1, c2, b1⟩ := HA.out.at_ h1
      have c1' : (w.drewN q).cell? (ad.add (k * 2)) = some (.slice p.A p.n p.c) := c1
      have HS := rcmp_any p.A A' p.n n' p.c c' B p.key key (w.drewN q) (b1.drewN q) (HB.out.drewN q)
      obtain ⟨cv, hcv⟩ : ∃ z, cmpL p.key key = z := ⟨_, rfl⟩
      rw [hcv] at HS
      have HCV := Lib.hid hcv
      have HS := Lib.hid HS
      have HE := Lib.hid e1
      have ewk : IntKind.i64.wrap ((k : Int) + 1) = ((k + 1 : Nat) : Int) := by rw [IntKind.wrap_i64]; omega
      clear c1 c2 e1 b1 hcv
      by_cases hc : cv < 0
      · have hd : decide (cv < 0) = true := decide_eq_true hc
        have HF2 := Lib.hid (show ∀ (j : Nat) (p : PV), j < k + 1 → ps[j]? = some p → cmpL p.key key < 0 from fun j p' hj hp => by
          rcases Nat.lt_or_ge j k with h | h
          · exact HF.out j p' h hp
          · obtain rfl : j = k := by omega
            rw [HE.out] at hp
            cases hp
            show cmpL p.key key < 0; rw [HCV.out]; exact hc)
        clear hc
        go_wp2_with fail
        (with_reducible refine HS.out.mono ?_)
        rintro e w1 ⟨rfl, s1⟩
        have HST := Lib.hid (Still.trans ⟨q, rfl⟩ s1)
        clear s1
        go_wp2_with fail
        exact ⟨⟨k + 1, by omega, by go_num, HF2, HST.out⟩, by simp [intOf]; omega⟩
      · have hd : decide (cv < 0) = false := decide_eq_false hc
        have HN := Lib.hid (show r = k from by
          rw [← HR.out.1]
          refine ahead_of HR.out.2 (by rw [List.length_map, HL.out]; exact hk) (fun j p' hj hp => ?_) (fun p' hp => ?_)
          · rw [List.getElem?_map] at hp
            obtain ⟨p2, hp2, rfl⟩ := Option.map_eq_some_iff.1 hp
            exact HF.out j p2 hj hp2
          · rw [List.getElem?_map, HE.out] at hp
            cases hp
            show ¬ cmpL p.key key < 0; rw [HCV.out]; exact hc)
        clear hc
        go_wp2_with fail
        (with_reducible refine HS.out.mono ?_)
        rintro e w1 ⟨rfl, s1⟩
        have HST := Lib.hid (Still.trans ⟨q, rfl⟩ s1)
        clear s1
        go_wp2_with fail
        go_ret
        exact ⟨by rw [HN.out]; rfl, HST.out⟩
    · obtain rfl : k = n := by omega
      have HN := Lib.hid (show r = k from by
        rw [← HR.out.1]
        refine ahead_of HR.out.2 (by rw [List.length_map, HL.out]; exact Nat.le_refl _) (fun j p' hj hp => ?_) (fun p' hp => ?_)
        · rw [List.getElem?_map] at hp
          obtain ⟨p2, hp2, rfl⟩ := Option.map_eq_some_iff.1 hp
          exact HF.out j p2 hj hp2
        · have := (List.getElem?_eq_some_iff.1 hp).1
          rw [List.length_map, HL.out] at this
          omega)
      go_wp2_with fail
      go_ret
      exact ⟨by rw [HN.out]; rfl, hs⟩
set_option maxRecDepth 100000 in
set_option maxHeartbeats 1000000 in
theorem rupto_any (A A' : Option Addr) (n c n' c' B : Nat) (ps : List PV) (key : List UInt8) (w : World) (ha : Prs w B A n ps) (hb : Byt w B A' n' key) (hn : n ≤ 1000000) (hr : Rsn ps) :
    Calls Tryz.prog 31 #[.slice A n c, .slice A' n' c'] w fun e w' => e = .returned (.int .i64 (aheadN (ps.map kvP) (key ++ [0]) : Int)) ∧ Still w w' := by
  have HA := Lib.hid ha
  have HB := Lib.hid hb
  have HL := Lib.hid ha.1
  obtain ⟨r, hr1⟩ : ∃ r, aheadN (ps.map kvP) (key ++ [0]) = r := ⟨_, rfl⟩
  rw [hr1]
  have HR := Lib.hid (And.intro hr1 (rsn_kv hr))
  clear ha hb hr1 hr
  go_enter Tryz.func31, Tryz.ntmps31
  go_wp2_with fail
  go_loopw [5] (fun i wr => ∃ k : Nat, k ≤ n ∧ i = .int .i64 (k : Int) ∧ Hid (∀ (j : Nat) (p : PV), j < k → ps[j]? = some p → cmpL p.key (key ++ [0]) < 0) ∧ Still w wr) (fun i _ => n - (intOf i).toNat)
  case atStart => exact ⟨0, Nat.zero_le _, rfl, Lib.hid (fun j p hj => by omega), Still.refl _⟩
  case round =>
    obtain ⟨k, hk, rfl, HF, hs⟩ := hrel
    by_cases h1 : k < n
    · obtain ⟨q, rfl⟩ := hs
      obtain ⟨ad, p, rfl, hlt, e1, c1, c2, b1⟩ := HA.out.at_ h1
      have c1' : (w.drewN q).cell? (ad.add (k * 2)) = some (.slice p.A p.n p.c) := c1
      have HS := rcmp_any p.A A' p.n n' p.c c' B p.key key (w.drewN q) (b1.drewN q) (HB.out.drewN q)
      obtain ⟨cv, hcv⟩ : ∃ z, cmpL p.key key = z := ⟨_, rfl⟩
      rw [hcv] at HS
      have HCV := Lib.hid hcv
      have HS := Lib.hid HS
      have HE := Lib.hid e1
      have ewk : IntKind.i64.wrap ((k : Int) + 1) = ((k + 1 : Nat) : Int) := by rw [IntKind.wrap_i64]; omega
      clear c1 c2 e1 b1 hcv
      by_cases hc : cv ≤ 0
      · have hd : decide (cv ≤ 0) = true := decide_eq_true hc
        have HF2 := Lib.hid (show ∀ (j : Nat) (p : PV), j < k + 1 → ps[j]? = some p → cmpL p.key (key ++ [0]) < 0 from fun j p' hj hp => by
          rcases Nat.lt_or_ge j k with h | h
          · exact HF.out j p' h hp
          · obtain rfl : j = k := by omega
            rw [HE.out] at hp
            cases hp
            show cmpL p.key (key ++ [0]) < 0; rw [upto_lt, HCV.out]; exact hc)
        clear hc
        go_wp2_with fail
        (with_reducible refine HS.out.mono ?_)
        rintro e w1 ⟨rfl, s1⟩
        have HST := Lib.hid (Still.trans ⟨q, rfl⟩ s1)
        clear s1
        go_wp2_with fail
        exact ⟨⟨k + 1, by omega, by go_num, HF2, HST.out⟩, by simp [intOf]; omega⟩
      · have hd : decide (cv ≤ 0) = false := decide_eq_false hc
        have HN := Lib.hid (show r = k from by
          rw [← HR.out.1]
          refine ahead_of HR.out.2 (by rw [List.length_map, HL.out]; exact hk) (fun j p' hj hp => ?_) (fun p' hp => ?_)
          · rw [List.getElem?_map] at hp
            obtain ⟨p2, hp2, rfl⟩ := Option.map_eq_some_iff.1 hp
            exact HF.out j p2 hj hp2
          · rw [List.getElem?_map, HE.out] at hp
            cases hp
            show ¬ cmpL p.key (key ++ [0]) < 0; rw [upto_lt, HCV.out]; exact hc)
        clear hc
        go_wp2_with fail
        (with_reducible refine HS.out.mono ?_)
        rintro e w1 ⟨rfl, s1⟩
        have HST := Lib.hid (Still.trans ⟨q, rfl⟩ s1)
        clear s1
        go_wp2_with fail
        go_ret
        exact ⟨by rw [HN.out]; rfl, HST.out⟩
    · obtain rfl : k = n := by omega
      have HN := Lib.hid (show r = k from by
        rw [← HR.out.1]
        refine ahead_of HR.out.2 (by rw [List.length_map, HL.out]; exact Nat.le_refl _) (fun j p' hj hp => ?_) (fun p' hp => ?_)
        · rw [List.getElem?_map] at hp
          obtain ⟨p2, hp2, rfl⟩ := Option.map_eq_some_iff.1 hp
          exact HF.out j p2 hj hp2
        · have := (List.getElem?_eq_some_iff.1 hp).1
          rw [List.length_map, HL.out] at this
          omega)
      go_wp2_with fail
      go_ret
      exact ⟨by rw [HN.out]; rfl, hs⟩
set_option maxRecDepth 100000 in
theorem rmin_any (A : Option Addr) (n c B : Nat) (ps : List PV) (w : World) (ha : Prs w B A n ps) (hB : B ≤ w.heap.size) (hn : n ≤ 1000000) (o : Option PV) (ho : atP ps (0) = o) :
    Calls Tryz.prog 11 #[.slice A n c] w (RfPost w o) := by
  obtain ⟨W, hW⟩ : ∃ W, w.alloc (.cells #[.slice none 0 0, .int .u64 0] 34) = W := ⟨_, rfl⟩
  have hbw : Below w.heap.size w W := by rw [← hW]; exact (Below.refl _ _).alloc (Nat.le_refl _) _
  have hj : Blk W w.heap.size #[.slice none 0 0, .int .u64 0] := by rw [← hW]; exact Blk.new w _ _
  have HW := Lib.hid hW
  have HBW := Lib.hid (And.intro hbw hj)
  have HAT := Lib.hid (fun (V : World) (hV : Below w.heap.size w V) (i : Int) (hi : -1 ≤ i) (e : atP ps i = o) => rat_any A n c B ps i V (ha.below (hV.mono hB)) (Nat.le_trans hB hV.size) hi o e)
  have HO := Lib.hid ho
  have ewn : IntKind.i64.wrap ((n : Int) - 1) = (n : Int) - 1 := by rw [IntKind.wrap_i64]; omega
  clear ha ho hW hbw hj hB
  go_enter Tryz.func11, Tryz.ntmps11
  have H2 := Lib.hid (HAT.out W HBW.out.1 (0) (by omega) HO.out)
  go_wp2_with fail
  rw [HW.out]
  (with_reducible refine H2.out.mono ?_)
  rintro e w2 ⟨rfl, b2⟩
  have b3 : Below W.heap.size W w2 := b2
  have j2 := HBW.out.2.below b3 HBW.out.2.lt
  have d0 := j2.cell 0
  have d1 := j2.cell 1
  have z0 := j2.fz 0
  have z1 := j2.fz 1
  obtain ⟨p, hp⟩ : ∃ p, pvO o = p := ⟨_, rfl⟩
  obtain ⟨b, hb⟩ : ∃ b, o.isSome = b := ⟨_, rfl⟩
  have HP := Lib.hid (And.intro hp hb)
  have HJ2 := Lib.hid (And.intro j2 (HBW.out.1.trans (b3.mono HBW.out.1.size)))
  rw [hp, hb]
  clear b2 b3 j2 hp hb H2
  go_wp2_with fail
  obtain ⟨t1, t2⟩ := two_set HJ2.out.1 (.slice p.A p.n p.c) (.int .u64 p.val)
  obtain ⟨rfl, rfl⟩ := HP.out
  exact close2e rfl rfl rfl rfl (kpair_load t1) ⟨rfl, HJ2.out.2.trans (t2.below HJ2.out.2.size (fun i e => by omega))⟩
set_option maxRecDepth 100000 in
theorem rmax_any (A : Option Addr) (n c B : Nat) (ps : List PV) (w : World) (ha : Prs w B A n ps) (hB : B ≤ w.heap.size) (hn : n ≤ 1000000) (o : Option PV) (ho : atP ps ((n : Int) - 1) = o) :
    Calls Tryz.prog 13 #[.slice A n c] w (RfPost w o) := by
  obtain ⟨W, hW⟩ : ∃ W, w.alloc (.cells #[.slice none 0 0, .int .u64 0] 34) = W := ⟨_, rfl⟩
  have hbw : Below w.heap.size w W := by rw [← hW]; exact (Below.refl _ _).alloc (Nat.le_refl _) _
  have hj : Blk W w.heap.size #[.slice none 0 0, .int .u64 0] := by rw [← hW]; exact Blk.new w _ _
  have HW := Lib.hid hW
  have HBW := Lib.hid (And.intro hbw hj)
  have HAT := Lib.hid (fun (V : World) (hV : Below w.heap.size w V) (i : Int) (hi : -1 ≤ i) (e : atP ps i = o) => rat_any A n c B ps i V (ha.below (hV.mono hB)) (Nat.le_trans hB hV.size) hi o e)
  have HO := Lib.hid ho
  have ewn : IntKind.i64.wrap ((n : Int) - 1) = (n : Int) - 1 := by rw [IntKind.wrap_i64]; omega
  clear ha ho hW hbw hj hB
  go_enter Tryz.func13, Tryz.ntmps13
  have H2 := Lib.hid (HAT.out W HBW.out.1 ((n : Int) - 1) (by omega) HO.out)
  go_wp2_with fail
  rw [HW.out]
  (with_reducible refine H2.out.mono ?_)
  rintro e w2 ⟨rfl, b2⟩
  have b3 : Below W.heap.size W w2 := b2
  have j2 := HBW.out.2.below b3 HBW.out.2.lt
  have d0 := j2.cell 0
  have d1 := j2.cell 1
  have z0 := j2.fz 0
  have z1 := j2.fz 1
  obtain ⟨p, hp⟩ : ∃ p, pvO o = p := ⟨_, rfl⟩
  obtain ⟨b, hb⟩ : ∃ b, o.isSome = b := ⟨_, rfl⟩
  have HP := Lib.hid (And.intro hp hb)
  have HJ2 := Lib.hid (And.intro j2 (HBW.out.1.trans (b3.mono HBW.out.1.size)))
  rw [hp, hb]
  clear b2 b3 j2 hp hb H2
  go_wp2_with fail
  obtain ⟨t1, t2⟩ := two_set HJ2.out.1 (.slice p.A p.n p.c) (.int .u64 p.val)
  obtain ⟨rfl, rfl⟩ := HP.out
  exact close2e rfl rfl rfl rfl (kpair_load t1) ⟨rfl, HJ2.out.2.trans (t2.below HJ2.out.2.size (fun i e => by omega))⟩
set_option maxRecDepth 100000 in
theorem rfloor_any (A A' : Option Addr) (n c n' c' B : Nat) (ps : List PV) (key : List UInt8) (w : World) (ha : Prs w B A n ps) (hb : Byt w B A' n' key) (hB : B ≤ w.heap.size) (hn : n ≤ 1000000) (hr : Rsn ps) (o : Option PV) (ho : atP ps ((aheadN (ps.map kvP) (key ++ [0]) : Int) - 1) = o) :
    Calls Tryz.prog 16 #[.slice A n c, .slice A' n' c'] w (RfPost w o) := by
  obtain ⟨W, hW⟩ : ∃ W, w.alloc (.cells #[.slice none 0 0, .int .u64 0] 34) = W := ⟨_, rfl⟩
  have hbw : Below w.heap.size w W := by rw [← hW]; exact (Below.refl _ _).alloc (Nat.le_refl _) _
  have hj : Blk W w.heap.size #[.slice none 0 0, .int .u64 0] := by rw [← hW]; exact Blk.new w _ _
  have HW := Lib.hid hW
  have HBW := Lib.hid (And.intro hbw hj)
  have HAT := Lib.hid (fun (V : World) (hV : Below w.heap.size w V) (i : Int) (hi : -1 ≤ i) (e : atP ps i = o) => rat_any A n c B ps i V (ha.below (hV.mono hB)) (Nat.le_trans hB hV.size) hi o e)
  have HO := Lib.hid ho
  have HC := Lib.hid (rupto_any A A' n c n' c' B ps key W (ha.below (hbw.mono hB)) (hb.below (hbw.mono hB)) hn hr)
  obtain ⟨z, hz⟩ : ∃ z, aheadN (ps.map kvP) (key ++ [0]) = z := ⟨_, rfl⟩
  rw [hz] at HC HO
  have hz6 : z ≤ 1000000 := by rw [← hz]; have := ahead_le (ps.map kvP) (key ++ [0]); rw [List.length_map, ha.1] at this; omega
  have ewz : IntKind.i64.wrap ((z : Int) - 1) = (z : Int) - 1 := by rw [IntKind.wrap_i64]; omega
  clear ha hb ho hW hbw hj hz hB hr
  go_enter Tryz.func16, Tryz.ntmps16
  go_wp2_with fail
  rw [HW.out]
  (with_reducible refine HC.out.mono ?_)
  rintro e w1 ⟨rfl, s1⟩
  have HB1 := Lib.hid (s1.below W.heap.size)
  clear s1 HC
  have H2 := Lib.hid (HAT.out w1 (HBW.out.1.trans (HB1.out.mono HBW.out.1.size)) ((z : Int) - 1) (by omega) HO.out)
  go_wp2_with fail
  (with_reducible refine H2.out.mono ?_)
  rintro e w2 ⟨rfl, b2⟩
  have b3 : Below W.heap.size W w2 := (HB1.out.trans (b2.mono HB1.out.size))
  have j2 := HBW.out.2.below b3 HBW.out.2.lt
  have d0 := j2.cell 0
  have d1 := j2.cell 1
  have z0 := j2.fz 0
  have z1 := j2.fz 1
  obtain ⟨p, hp⟩ : ∃ p, pvO o = p := ⟨_, rfl⟩
  obtain ⟨b, hb⟩ : ∃ b, o.isSome = b := ⟨_, rfl⟩
  have HP := Lib.hid (And.intro hp hb)
  have HJ2 := Lib.hid (And.intro j2 (HBW.out.1.trans (b3.mono HBW.out.1.size)))
  rw [hp, hb]
  clear b2 b3 j2 hp hb H2
  go_wp2_with fail
  obtain ⟨t1, t2⟩ := two_set HJ2.out.1 (.slice p.A p.n p.c) (.int .u64 p.val)
  obtain ⟨rfl, rfl⟩ := HP.out
  exact close2e rfl rfl rfl rfl (kpair_load t1) ⟨rfl, HJ2.out.2.trans (t2.below HJ2.out.2.size (fun i e => by omega))⟩
set_option maxRecDepth 100000 in
theorem rceil_any (A A' : Option Addr) (n c n' c' B : Nat) (ps : List PV) (key : List UInt8) (w : World) (ha : Prs w B A n ps) (hb : Byt w B A' n' key) (hB : B ≤ w.heap.size) (hn : n ≤ 1000000) (hr : Rsn ps) (o : Option PV) (ho : atP ps ((aheadN (ps.map kvP) key : Int)) = o) :
    Calls Tryz.prog 18 #[.slice A n c, .slice A' n' c'] w (RfPost w o) := by
  obtain ⟨W, hW⟩ : ∃ W, w.alloc (.cells #[.slice none 0 0, .int .u64 0] 34) = W := ⟨_, rfl⟩
  have hbw : Below w.heap.size w W := by rw [← hW]; exact (Below.refl _ _).alloc (Nat.le_refl _) _
  have hj : Blk W w.heap.size #[.slice none 0 0, .int .u64 0] := by rw [← hW]; exact Blk.new w _ _
  have HW := Lib.hid hW
  have HBW := Lib.hid (And.intro hbw hj)
  have HAT := Lib.hid (fun (V : World) (hV : Below w.heap.size w V) (i : Int) (hi : -1 ≤ i) (e : atP ps i = o) => rat_any A n c B ps i V (ha.below (hV.mono hB)) (Nat.le_trans hB hV.size) hi o e)
  have HO := Lib.hid ho
  have HC := Lib.hid (rahead_any A A' n c n' c' B ps key W (ha.below (hbw.mono hB)) (hb.below (hbw.mono hB)) hn hr)
  obtain ⟨z, hz⟩ : ∃ z, aheadN (ps.map kvP) key = z := ⟨_, rfl⟩
  rw [hz] at HC HO
  have hz6 : z ≤ 1000000 := by rw [← hz]; have := ahead_le (ps.map kvP) key; rw [List.length_map, ha.1] at this; omega
  have ewz : IntKind.i64.wrap ((z : Int) - 1) = (z : Int) - 1 := by rw [IntKind.wrap_i64]; omega
  clear ha hb ho hW hbw hj hz hB hr
  go_enter Tryz.func18, Tryz.ntmps18
  go_wp2_with fail
  rw [HW.out]
  (with_reducible refine HC.out.mono ?_)
  rintro e w1 ⟨rfl, s1⟩
  have HB1 := Lib.hid (s1.below W.heap.size)
  clear s1 HC
  have H2 := Lib.hid (HAT.out w1 (HBW.out.1.trans (HB1.out.mono HBW.out.1.size)) ((z : Int)) (by omega) HO.out)
  go_wp2_with fail
  (with_reducible refine H2.out.mono ?_)
  rintro e w2 ⟨rfl, b2⟩
  have b3 : Below W.heap.size W w2 := (HB1.out.trans (b2.mono HB1.out.size))
  have j2 := HBW.out.2.below b3 HBW.out.2.lt
  have d0 := j2.cell 0
  have d1 := j2.cell 1
  have z0 := j2.fz 0
  have z1 := j2.fz 1
  obtain ⟨p, hp⟩ : ∃ p, pvO o = p := ⟨_, rfl⟩
  obtain ⟨b, hb⟩ : ∃ b, o.isSome = b := ⟨_, rfl⟩
  have HP := Lib.hid (And.intro hp hb)
  have HJ2 := Lib.hid (And.intro j2 (HBW.out.1.trans (b3.mono HBW.out.1.size)))
  rw [hp, hb]
  clear b2 b3 j2 hp hb H2
  go_wp2_with fail
  obtain ⟨t1, t2⟩ := two_set HJ2.out.1 (.slice p.A p.n p.c) (.int .u64 p.val)
  obtain ⟨rfl, rfl⟩ := HP.out
  exact close2e rfl rfl rfl rfl (kpair_load t1) ⟨rfl, HJ2.out.2.trans (t2.below HJ2.out.2.size (fun i e => by omega))⟩
set_option maxRecDepth 100000 in
theorem rlower_any (A A' : Option Addr) (n c n' c' B : Nat) (ps : List PV) (key : List UInt8) (w : World) (ha : Prs w B A n ps) (hb : Byt w B A' n' key) (hB : B ≤ w.heap.size) (hn : n ≤ 1000000) (hr : Rsn ps) (o : Option PV) (ho : atP ps ((aheadN (ps.map kvP) key : Int) - 1) = o) :
    Calls Tryz.prog 20 #[.slice A n c, .slice A' n' c'] w (RfPost w o) := by
  obtain ⟨W, hW⟩ : ∃ W, w.alloc (.cells #[.slice none 0 0, .int .u64 0] 34) = W := ⟨_, rfl⟩
  have hbw : Below w.heap.size w W := by rw [← hW]; exact (Below.refl _ _).alloc (Nat.le_refl _) _
  have hj : Blk W w.heap.size #[.slice none 0 0, .int .u64 0] := by rw [← hW]; exact Blk.new w _ _
  have HW := Lib.hid hW
  have HBW := Lib.hid (And.intro hbw hj)
  have HAT := Lib.hid (fun (V : World) (hV : Below w.heap.size w V) (i : Int) (hi : -1 ≤ i) (e : atP ps i = o) => rat_any A n c B ps i V (ha.below (hV.mono hB)) (Nat.le_trans hB hV.size) hi o e)
  have HO := Lib.hid ho
  have HC := Lib.hid (rahead_any A A' n c n' c' B ps key W (ha.below (hbw.mono hB)) (hb.below (hbw.mono hB)) hn hr)
  obtain ⟨z, hz⟩ : ∃ z, aheadN (ps.map kvP) key = z := ⟨_, rfl⟩
  rw [hz] at HC HO
  have hz6 : z ≤ 1000000 := by rw [← hz]; have := ahead_le (ps.map kvP) key; rw [List.length_map, ha.1] at this; omega
  have ewz : IntKind.i64.wrap ((z : Int) - 1) = (z : Int) - 1 := by rw [IntKind.wrap_i64]; omega
  clear ha hb ho hW hbw hj hz hB hr
  go_enter Tryz.func20, Tryz.ntmps20
  go_wp2_with fail
  rw [HW.out]
  (with_reducible refine HC.out.mono ?_)
  rintro e w1 ⟨rfl, s1⟩
  have HB1 := Lib.hid (s1.below W.heap.size)
  clear s1 HC
  have H2 := Lib.hid (HAT.out w1 (HBW.out.1.trans (HB1.out.mono HBW.out.1.size)) ((z : Int) - 1) (by omega) HO.out)
  go_wp2_with fail
  (with_reducible refine H2.out.mono ?_)
  rintro e w2 ⟨rfl, b2⟩
  have b3 : Below W.heap.size W w2 := (HB1.out.trans (b2.mono HB1.out.size))
  have j2 := HBW.out.2.below b3 HBW.out.2.lt
  have d0 := j2.cell 0
  have d1 := j2.cell 1
  have z0 := j2.fz 0
  have z1 := j2.fz 1
  obtain ⟨p, hp⟩ : ∃ p, pvO o = p := ⟨_, rfl⟩
  obtain ⟨b, hb⟩ : ∃ b, o.isSome = b := ⟨_, rfl⟩
  have HP := Lib.hid (And.intro hp hb)
  have HJ2 := Lib.hid (And.intro j2 (HBW.out.1.trans (b3.mono HBW.out.1.size)))
  rw [hp, hb]
  clear b2 b3 j2 hp hb H2
  go_wp2_with fail
  obtain ⟨t1, t2⟩ := two_set HJ2.out.1 (.slice p.A p.n p.c) (.int .u64 p.val)
  obtain ⟨rfl, rfl⟩ := HP.out
  exact close2e rfl rfl rfl rfl (kpair_load t1) ⟨rfl, HJ2.out.2.trans (t2.below HJ2.out.2.size (fun i e => by omega))⟩
set_option maxRecDepth 100000 in
theorem rhigher_any (A A' : Option Addr) (n c n' c' B : Nat) (ps : List PV) (key : List UInt8) (w : World) (ha : Prs w B A n ps) (hb : Byt w B A' n' key) (hB : B ≤ w.heap.size) (hn : n ≤ 1000000) (hr : Rsn ps) (o : Option PV) (ho : atP ps ((aheadN (ps.map kvP) (key ++ [0]) : Int)) = o) :
    Calls Tryz.prog 22 #[.slice A n c, .slice A' n' c'] w (RfPost w o) := by
  obtain ⟨W, hW⟩ : ∃ W, w.alloc (.cells #[.slice none 0 0, .int .u64 0] 34) = W := ⟨_, rfl⟩
  have hbw : Below w.heap.size w W := by rw [← hW]; exact (Below.refl _ _).alloc (Nat.le_refl _) _
  have hj : Blk W w.heap.size #[.slice none 0 0, .int .u64 0] := by rw [← hW]; exact Blk.new w _ _
  have HW := Lib.hid hW
  have HBW := Lib.hid (And.intro hbw hj)
  have HAT := Lib.hid (fun (V : World) (hV : Below w.heap.size w V) (i : Int) (hi : -1 ≤ i) (e : atP ps i = o) => rat_any A n c B ps i V (ha.below (hV.mono hB)) (Nat.le_trans hB hV.size) hi o e)
  have HO := Lib.hid ho
  have HC := Lib.hid (rupto_any A A' n c n' c' B ps key W (ha.below (hbw.mono hB)) (hb.below (hbw.mono hB)) hn hr)
  obtain ⟨z, hz⟩ : ∃ z, aheadN (ps.map kvP) (key ++ [0]) = z := ⟨_, rfl⟩
  rw [hz] at HC HO
  have hz6 : z ≤ 1000000 := by rw [← hz]; have := ahead_le (ps.map kvP) (key ++ [0]); rw [List.length_map, ha.1] at this; omega
  have ewz : IntKind.i64.wrap ((z : Int) - 1) = (z : Int) - 1 := by rw [IntKind.wrap_i64]; omega
  clear ha hb ho hW hbw hj hz hB hr
  go_enter Tryz.func22, Tryz.ntmps22
  go_wp2_with fail
  rw [HW.out]
  (with_reducible refine HC.out.mono ?_)
  rintro e w1 ⟨rfl, s1⟩
  have HB1 := Lib.hid (s1.below W.heap.size)
  clear s1 HC
  have H2 := Lib.hid (HAT.out w1 (HBW.out.1.trans (HB1.out.mono HBW.out.1.size)) ((z : Int)) (by omega) HO.out)
  go_wp2_with fail
  (with_reducible refine H2.out.mono ?_)
  rintro e w2 ⟨rfl, b2⟩
  have b3 : Below W.heap.size W w2 := (HB1.out.trans (b2.mono HB1.out.size))
  have j2 := HBW.out.2.below b3 HBW.out.2.lt
  have d0 := j2.cell 0
  have d1 := j2.cell 1
  have z0 := j2.fz 0
  have z1 := j2.fz 1
  obtain ⟨p, hp⟩ : ∃ p, pvO o = p := ⟨_, rfl⟩
  obtain ⟨b, hb⟩ : ∃ b, o.isSome = b := ⟨_, rfl⟩
  have HP := Lib.hid (And.intro hp hb)
  have HJ2 := Lib.hid (And.intro j2 (HBW.out.1.trans (b3.mono HBW.out.1.size)))
  rw [hp, hb]
  clear b2 b3 j2 hp hb H2
  go_wp2_with fail
  obtain ⟨t1, t2⟩ := two_set HJ2.out.1 (.slice p.A p.n p.c) (.int .u64 p.val)
  obtain ⟨rfl, rfl⟩ := HP.out
  exact close2e rfl rfl rfl rfl (kpair_load t1) ⟨rfl, HJ2.out.2.trans (t2.below HJ2.out.2.size (fun i e => by omega))⟩
end Go.Proofs.YtidiinededalmaaGreat
