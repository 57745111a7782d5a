/-
  The document's trees, or nothing: Build, Check; Shape, Depth and Made of what Build answers.
  What holds of the canonical tree of pairs that rise, or of nothing; how many nodes there are at most. No program is run.
  The document's trees: list and List: a tree's pairs.
-/
import Derived.Test.YtcfokkojoppmkaaGreatDoorDtBuild
import Derived.Test.YtcfokkojoppmkaaGreatDoorDtShape
import Derived.Test.YtcfokkojoppmkaaGreatDoorCanonQ
import Derived.Test.YtcfokkojoppmkaaGreatDoorRaw
import Derived.Test.YtcfokkojoppmkaaGreatDoorCnLaw
namespace Go.Proofs.YtcfokkojoppmkaaGreatDoor
open Go.RowKit

def zero6 : List Value := [.int .i64 0, .slice none 0 0, .bool false, .int .u64 0, .slice none 0 0, .slice none 0 0]
theorem zero6_one : zero6.toArray.all (·.oneCell') = true := all_oneCell_toArray (fun v hv => by
  unfold zero6 at hv
  simp only [List.mem_cons, List.not_mem_nil, or_false] at hv
  rcases hv with rfl | rfl | rfl | rfl | rfl | rfl <;> rfl)
def ODno (w : World) : Option (Nn × Fo) → List Value → Prop
  | none, cs => cs = zero6
  | some T, cs => Dno w w.heap.size T.1 T.2 cs
theorem ODno.below {w w' : World} {t : Option (Nn × Fo)} {cs : List Value} (h : ODno w t cs) (hb : Below w.heap.size w w') : ODno w' t cs := by
  cases t with
  | none => exact h
  | some T => exact (Dno.below h hb).more hb.size
theorem ODno.six {w : World} {t : Option (Nn × Fo)} {cs : List Value} (h : ODno w t cs) : ∃ (a : Int) (A : Option Addr) (n c : Nat) (hs : Bool) (v : Int) (Ab : Option Addr) (nb cb : Nat) (Ak : Option Addr) (nk ck : Nat), cs = [.int .i64 a, .slice A n c, .bool hs, .int .u64 v, .slice Ab nb cb, .slice Ak nk ck] := by
  cases t with
  | none => exact ⟨_, _, _, _, _, _, _, _, _, _, _, _, h⟩
  | some T =>
    obtain ⟨d, ek, e, _⟩ := h
    exact ⟨_, _, _, _, _, _, _, _, _, _, _, _, e⟩

set_option maxRecDepth 100000 in
set_option maxHeartbeats 1000000 in
theorem rbuild_none (A : Option Addr) (c : Nat) (q : Int) (w : World) : Calls Tryz.prog 42 #[.slice A 0 c, .int .i64 q] w fun e w' => e = .returned (.agg zero6.toArray) ∧ Below w.heap.size w w' := by
  obtain ⟨W0, hW0⟩ : ∃ V, w.alloc (.cells #[.int .i64 0, .slice none 0 0, .bool false, .int .u64 0, .slice none 0 0, .slice none 0 0] 45) = V := ⟨_, rfl⟩
  have bW0 : Below w.heap.size w W0 := by rw [← hW0]; exact (Below.refl _ _).alloc (Nat.le_refl _) _
  have zW0 : Lst W0 w.heap.size zero6 := by rw [← hW0]; exact Blk.new w _ _
  have BE := Lib.hid (below_over bW0 zero6 bW0.size)
  have H1 := Lib.hid (Lst.all (over_six (cs := zero6) zW0 rfl rfl))
  have HTH := Lib.hid (Lst.there zW0 (o := 0) (n := 6) (Nat.le_refl _))
  have HN6 := Lib.hid zero6_one
  clear bW0 zW0
  go_enter Tryz.func42, Tryz.ntmps42
  go_wp2_with (refine wpList_store_mid rfl 45 (.tmp 4) (.tmp 12) rfl w.heap.size 0 (zero6 : List Value).toArray (by rfl) (by rfl) HTH.out size_node HN6.out ?_)
  (try simp only [Exit.inBlock, Exit.then])
  refine bodyPost_ret (node_ret Tryz.f42 rfl _ H1.out rfl (by rfl)) (by rfl) ?_
  exact ⟨rfl, BE.out⟩
set_option maxRecDepth 100000 in
set_option maxHeartbeats 1000000 in
theorem rBuild_any (f n c B : Nat) (A : Option Addr) (ps : List PV) (w : World) (ha : Prs w B A n ps) (hk : Kps w B ps) (hB : B ≤ w.heap.size) (hn : n ≤ 1000) (hnc : n ≤ c) (hl : ∀ p ∈ ps, p.key.length ≤ 1000000 ∧ p.key.length < f) (hr : Rise (rel 0 ps)) :
    Calls Tryz.prog 15 #[.slice A n c] w fun e w' => ∃ cs, e = .returned (.agg cs.toArray) ∧ ODno w' (bTr 1 f (rel 0 ps)) cs ∧ Below w.heap.size w w' := by
  obtain ⟨W0, hW0⟩ : ∃ V, w.alloc (.cells #[.int .i64 0, .slice none 0 0, .bool false, .int .u64 0, .slice none 0 0, .slice none 0 0] 45) = V := ⟨_, rfl⟩
  have bW0 : Below w.heap.size w W0 := by rw [← hW0]; exact (Below.refl _ _).alloc (Nat.le_refl _) _
  have sW0 : W0.heap.size = w.heap.size + 1 := by rw [← hW0]; simp
  have zW0 : Lst W0 w.heap.size zero6 := by rw [← hW0]; exact Blk.new w _ _
  have HC := Lib.hid (show Calls Tryz.prog 42 #[.slice A n c, .int .i64 0] W0 fun e w' => ∃ cs, e = .returned (.agg cs.toArray) ∧ ((bTr 1 f (rel 0 ps) = none ∧ cs = zero6) ∨ ∃ T, bTr 1 f (rel 0 ps) = some T ∧ DnoS w' (fun i => i < B ∨ (W0.heap.size ≤ i ∧ i < w'.heap.size)) T.1 T.2 cs) ∧ Below W0.heap.size W0 w' from by
    by_cases h0 : n = 0
    · subst h0
      have hps : ps = [] := List.eq_nil_of_length_eq_zero ha.1
      subst hps
      exact (rbuild_none A c 0 W0).mono fun e w' ⟨h1, h2⟩ => ⟨zero6, h1, .inl ⟨rfl, rfl⟩, h2⟩
    · have hne : rel 0 ps ≠ [] := fun e => by have := congrArg List.length e; rw [rel_len, ha.1] at this; simp at this; omega
      refine (rbuilds f 0 n c B A ps W0 (ha.below (bW0.mono hB)) (hk.below (bW0.mono hB)) (Nat.le_trans hB bW0.size) hn hnc (by omega) (fun p hp => ⟨Nat.zero_le _, (hl p hp).1, by have := (hl p hp).2; omega⟩) hr ⟨[], rfl, fun p _ => rfl⟩).mono fun e w' ⟨cs, h1, h2, h3⟩ => ⟨cs, h1, .inr ⟨_, by unfold bTr; rw [if_neg hne], h2⟩, h3⟩)
  have ZW := Lib.hid zW0
  have BW := Lib.hid bW0
  have SW := Lib.hid sW0
  clear ha hk hl hr bW0 zW0 sW0
  go_enter Tryz.func15, Tryz.ntmps15
  go_wp2_with fail
  (with_reducible refine HC.out.mono ?_)
  rintro e V ⟨cs, rfl, hcs, b1⟩
  have hz : Lst V w.heap.size zero6 := Blk.below ZW.out b1 (by have := SW.out; omega)
  have hbw := BW.out.trans (b1.mono BW.out.size)
  have h6 : cs.length = 6 ∧ cs.toArray.all (·.oneCell') = true := by
    rcases hcs with ⟨_, rfl⟩ | ⟨T, _, h⟩
    · exact ⟨rfl, zero6_one⟩
    · exact node_six h
  have HO := Lib.hid (show ODno (V.setCells w.heap.size 0 cs) (bTr 1 f (rel 0 ps)) cs from by
    rcases hcs with ⟨h1, h2⟩ | ⟨T, h1, h⟩
    · rw [h1]; exact h2
    · rw [h1]
      exact (hand_over h hz rfl hB (by have := SW.out; omega) hbw).2.1.dno)
  have BE := Lib.hid (below_over hbw cs hbw.size)
  have H1 := Lib.hid (Lst.all (over_six hz rfl h6.1))
  have HTH := Lib.hid (show V.there w.heap.size 0 cs.toArray.size from Lst.there hz (o := 0) (n := cs.toArray.size) (by rw [List.size_toArray, h6.1]; exact Nat.le_refl _))
  have HS := Lib.hid (show (Tryz.prog.info? 45).map (·.size) = some cs.toArray.size by rw [List.size_toArray, h6.1]; exact size_node)
  have H6 := Lib.hid h6
  clear hcs b1 hz hbw h6 HC hW0
  go_wp2_with (refine wpList_store_mid rfl 45 (.tmp 2) (.tmp 4) rfl w.heap.size 0 cs.toArray (by rfl) (by rfl) HTH.out HS.out H6.out.2 ?_)
  (try simp only [Exit.inBlock, Exit.then])
  refine bodyPost_ret (node_ret Tryz.f15 rfl _ H1.out H6.out.1 (by rfl)) (by rfl) ?_
  exact ⟨_, rfl, HO.out, BE.out⟩

abbrev z6 : Array Value := #[.int .i64 0, .slice none 0 0, .bool false, .int .u64 0, .slice none 0 0, .slice none 0 0]
def ofine : Option (Nn × Fo) → Prop
  | none => True
  | some T => lfN T.1 T.2 ∧ T.2.lf
set_option maxRecDepth 100000 in
theorem rshape_any (t : Option (Nn × Fo)) (w : World) (cs : List Value) (h : ODno w t cs) (hl : ofine t) (ok : ook t) (hs : (oshL t).length ≤ 1000000000) :
    Calls Tryz.prog 17 #[.agg cs.toArray] w fun e w' => e = .returned (.string (bstr (oshL t))) ∧ Below w.heap.size w w' := by
  cases t with
  | none =>
    obtain rfl : cs = zero6 := h
    show Calls Tryz.prog 17 #[.agg z6] w _
    have BE := Lib.hid ((Below.refl w.heap.size w).alloc (Nat.le_refl _) (.cells z6 45))
    go_enter Tryz.func17, Tryz.ntmps17
    go_wp2
    go_ret
    exact ⟨rfl, BE.out⟩
  | some T =>
    exact rshape_tree T.1 T.2 w.heap.size w cs h (Nat.le_refl _) hl.1 hl.2 ok.1 ok.2 hs
set_option maxRecDepth 100000 in
theorem rdepth_top (t : Option (Nn × Fo)) (w : World) (cs : List Value) (h : ODno w t cs) (hd : dpV (otvis t) ≤ 1000000) :
    Calls Tryz.prog 21 #[.agg cs.toArray] w fun e w' => e = .returned (.int .i64 (dpV (otvis t) : Nat)) ∧ Below w.heap.size w w' := by
  cases t with
  | none =>
    obtain rfl : cs = zero6 := h
    show Calls Tryz.prog 21 #[.agg z6] w _
    have BE := Lib.hid ((Below.refl w.heap.size w).alloc (Nat.le_refl _) (.cells z6 45))
    go_enter Tryz.func21, Tryz.ntmps21
    go_wp2
    go_ret
    exact ⟨rfl, BE.out⟩
  | some T =>
    have e := dpV_dep T.1 T.2
    rw [show (T.1, T.2) = T from rfl] at e
    rw [e] at hd ⊢
    exact rdepth_any T.1 T.2 w.heap.size w cs h (Nat.le_refl _) (by omega)
set_option maxRecDepth 100000 in
theorem rmade_top (t : Option (Nn × Fo)) (w : World) (cs : List Value) (h : ODno w t cs) (hd : otn t ≤ 1000000) :
    Calls Tryz.prog 23 #[.agg cs.toArray] w fun e w' => e = .returned (.int .i64 (otn t : Nat)) ∧ Below w.heap.size w w' := by
  cases t with
  | none =>
    obtain rfl : cs = zero6 := h
    show Calls Tryz.prog 23 #[.agg z6] w _
    have BE := Lib.hid ((Below.refl w.heap.size w).alloc (Nat.le_refl _) (.cells z6 45))
    go_enter Tryz.func23, Tryz.ntmps23
    go_wp2
    go_ret
    exact ⟨rfl, BE.out⟩
  | some T =>
    have e : otn (some T) = 1 + T.2.tn := rfl
    rw [e] at hd ⊢
    exact rmade_any T.1 T.2 w.heap.size w cs h (Nat.le_refl _) (by omega)
set_option maxRecDepth 100000 in
set_option maxHeartbeats 1000000 in
theorem rcheck_any (A : Option Addr) (n c B : Nat) (ps : List PV) (w : World) (ha : Prs w B A n ps) (hn : n ≤ 1000) :
    Calls Tryz.prog 13 #[.slice A n c] w fun e w' => e = .returned (.int .i64 (chkV (ps.map PV.key))) ∧ Still w w' := by
  have HA := Lib.hid ha
  have HN := Lib.hid ha.1
  clear ha
  go_enter Tryz.func13, Tryz.ntmps13
  go_wp2
  go_loopw [3] (fun i wr => ∃ k : Nat, k ≤ n ∧ i = .int .i64 k ∧ Hid (∀ j p, j < k → ps[j]? = some p → p.key.length ≤ 65535) ∧ Still w wr) (fun i _ => n - (intOf i).toNat)
  case atStart => exact ⟨0, Nat.zero_le _, rfl, Lib.hid (fun j p hj => by omega), Still.refl _⟩
  case round =>
    obtain ⟨k, hk, rfl, HS, q, rfl⟩ := hrel
    by_cases h1 : k < n
    · obtain ⟨ad, p, rfl, _, e1, c1, c2, b1⟩ := HA.out.at_ h1
      have hpn : p.n = p.key.length := b1.1.symm
      have hp9 : p.n ≤ 9223372036854775807 := by have := b1.2.1; unfold maxLen at this; omega
      have HE1 := Lib.hid e1
      have HPN := Lib.hid hpn
      clear b1 e1 c2 hpn
      by_cases hb : 65535 < p.n
      · have HC := Lib.hid (show chkV (ps.map PV.key) = 8 by
          unfold chkV
          rw [if_pos]
          unfold bigB
          rw [List.any_map, List.any_eq_true]
          exact ⟨p, List.mem_of_getElem? HE1.out, by have := HPN.out; simp; omega⟩)
        go_wp2
        go_ret
        exact ⟨by rw [HC.out]; rfl, (by repeat (first | exact Still.refl _ | apply Still.step))⟩
      · have HS1 := Lib.hid (show ∀ j q, j < k + 1 → ps[j]? = some q → q.key.length ≤ 65535 from fun j q hj hq => by
          rcases Nat.lt_or_ge j k with h | h
          · exact HS.out j q h hq
          · have : j = k := by omega
            subst this
            rw [HE1.out] at hq
            injection hq with hq
            subst hq
            have := HPN.out
            omega)
        go_wp2
        exact ⟨⟨k + 1, by omega, by go_num, HS1, (by repeat (first | exact Still.refl _ | apply Still.step))⟩, by simp [intOf]; omega⟩
    · obtain rfl : k = n := by omega
      have hbb : bigB (ps.map PV.key) = false := by
        unfold bigB
        rw [List.any_map, List.any_eq_false]
        intro p hp
        obtain ⟨j, hj⟩ := List.mem_iff_getElem?.1 hp
        have := HS.out j p (by have := (List.getElem?_eq_some_iff.1 hj).1; have := HN.out; omega) hj
        simp
        omega
      have HC := Lib.hid (show chkV (ps.map PV.key) = if riseB (ps.map PV.key) then 0 else 12 by unfold chkV; rw [hbb]; rfl)
      have H1 := Lib.hid (rsorted_any A k c B ps (w.drewN q) (HA.out.below (Still.below (w := w) (w' := w.drewN q) ⟨q, rfl⟩ _)) (by omega))
      clear hbb
      go_wp2_with fail
      (with_reducible refine H1.out.mono ?_)
      rintro e w2 ⟨rfl, hs⟩
      have ST := Lib.hid ((show Still w (w.drewN q) from ⟨q, rfl⟩).trans hs)
      clear hs
      generalize riseB (ps.map PV.key) = rb at HC
      cases rb with
      | true =>
        go_wp2
        go_ret
        exact ⟨by rw [HC.out]; rfl, ST.out⟩
      | false =>
        go_wp2
        go_ret
        exact ⟨by rw [HC.out]; rfl, ST.out⟩
end Go.Proofs.YtcfokkojoppmkaaGreatDoor

namespace Go.Proofs.YtcfokkojoppmkaaGreatDoor
open Go.RowKit

theorem gput_meas (b : UInt8) (p : KV) (gs : List (UInt8 × List KV)) : (gput b p gs).length ≤ gs.length + 1 ∧ ((gput b p gs).map (·.2.length)).sum = (gs.map (·.2.length)).sum + 1 := by
  cases gs with
  | nil => simp [gput]
  | cons g gs =>
    obtain ⟨b', g⟩ := g
    by_cases h : b = b'
    · subst h
      exact ⟨by simp [gput], by simp only [gput, if_true, List.map_cons, List.sum_cons, List.length_cons]; omega⟩
    · exact ⟨by simp [gput, h], by simp only [gput, if_neg h, List.map_cons, List.sum_cons, List.length_cons, List.length_nil]; omega⟩
theorem grp_meas : ∀ L : List KV, (grp L).length ≤ L.length ∧ ((grp L).map (·.2.length)).sum ≤ L.length
  | [] => ⟨Nat.le_refl _, Nat.le_refl _⟩
  | ([], _) :: r => by
    have := grp_meas r
    show (grp r).length ≤ r.length + 1 ∧ _ ≤ r.length + 1
    exact ⟨by omega, by show ((grp r).map (·.2.length)).sum ≤ _; omega⟩
  | (b :: k, v) :: r => by
    have h1 := grp_meas r
    have h2 := gput_meas b (k, v) (grp r)
    show (gput b (k, v) (grp r)).length ≤ r.length + 1 ∧ ((gput b (k, v) (grp r)).map (·.2.length)).sum ≤ r.length + 1
    omega
theorem mkF_tn {c : List KV → Nn × Fo} {f : Nat} : ∀ {gs : List (UInt8 × List KV)}, (∀ x ∈ gs, tnT (c x.2) ≤ 1 + f * x.2.length) → (mkF c gs).tn ≤ gs.length + f * (gs.map (·.2.length)).sum
  | [], _ => Nat.zero_le _
  | (b, g) :: gs, h => by
    have h1 := h (b, g) (List.mem_cons_self ..)
    have h2 := mkF_tn fun x hx => h x (List.mem_cons_of_mem _ hx)
    simp only [List.length_cons, List.map_cons, List.sum_cons, Nat.mul_add]
    show 1 + (c g).2.tn + (mkF c gs).tn ≤ _
    unfold tnT at h1
    dsimp only at h1
    omega
theorem cT_tn (o : Int) : ∀ (f : Nat) (L : List KV), tnT (cT o f L) ≤ 1 + f * L.length
  | 0, L => by
    cases L <;> simp [cT, tnT, Fo.tn]
  | f + 1, [] => by simp [cT, tnT, Fo.tn]
  | f + 1, [p] => by simp [cT, tnT, Fo.tn]
  | f + 1, p :: q :: r => by
    have key : ∀ M : List KV, M.length ≤ (p :: q :: r).length → (mkF (cT o f) (grp M)).tn ≤ (f + 1) * (p :: q :: r).length := fun M hM => by
      have h1 := mkF_tn (c := cT o f) (f := f) (gs := grp M) (fun x _ => cT_tn o f x.2)
      have h2 := grp_meas M
      have h3 : f * ((grp M).map (·.2.length)).sum ≤ f * (p :: q :: r).length := Nat.mul_le_mul_left _ (by omega)
      rw [Nat.add_mul, Nat.one_mul]
      omega
    unfold cT
    dsimp only
    split
    · show 1 + (mkF _ _).tn ≤ _
      have := key (cut (lcp p.1 ((q :: r).getLast (by simp)).1) (q :: r)) (by unfold cut; rw [List.length_map]; simp)
      omega
    · show 1 + (mkF _ _).tn ≤ _
      have := key (cut (lcp p.1 ((q :: r).getLast (by simp)).1) (p :: q :: r)) (by unfold cut; rw [List.length_map]; exact Nat.le_refl _)
      omega
theorem bTr_tn (o : Int) (f : Nat) (L : List KV) : otn (bTr o f L) ≤ 1 + f * L.length := by
  unfold bTr
  split
  · exact Nat.zero_le _
  · exact cT_tn o f L
/-- What is told of the canonical tree, or of nothing. -/
structure CanO (ps : List PV) (t : Option (Nn × Fo)) : Prop where
  fits : Fits t
  ok : ook t
  lf : ofine t
  sh : (oshL t).length ≤ 1000000000
  tn : otn t ≤ 1000
  cnt : cntV (otvis t) = ps.length
  lst : listV (otvis t) = (ps.map kvP).map fun p => (p.1, [.int .u64 p.2])
  fine : (otvis t).all Vt.fine = true
  dp : dpV (otvis t) ≤ 1000
theorem can_o {ps : List PV} (hr : Rsn ps) (hk : ∀ p ∈ ps, p.key.length ≤ 300) (hn : ps.length ≤ 300) (hv : ∀ p ∈ ps, 0 ≤ p.val ∧ p.val ≤ 18446744073709551615) : CanO ps (bTr 1 301 (rel 0 ps)) := by
  by_cases hne : ps = []
  · subst hne
    exact ⟨⟨fun v hv => (by cases hv), (by show (0 : Nat) ≤ _; omega)⟩, trivial, trivial, (by show (1 : Nat) ≤ _; omega), (by show (0 : Nat) ≤ _; omega), rfl, rfl, rfl, (by show (0 : Nat) ≤ _; omega)⟩
  have hL : rel 0 ps = ps.map kvP := rel_zero ps
  have hne2 : rel 0 ps ≠ [] := by rw [hL]; simpa using hne
  have hc := can_of 1 hr hne (f := 301) (fun p hp => by have := hk p hp; omega)
  have hM : ∀ p ∈ ps.map kvP, p.1.length ≤ 300 := fun p hp => by obtain ⟨q, hq, rfl⟩ := List.mem_map.1 hp; exact hk q hq
  have hlen : ∀ p ∈ rel 0 ps, p.1.length < 301 := fun p hp => by
    rw [hL] at hp
    have := hM p hp
    omega
  obtain ⟨w1, w2⟩ := cT_wf 1 301 (rel 0 ps) hne2 (rsn_rel hr) hlen
  have hok := cT_ok 1 301 (rel 0 ps) (fun p hp => by
    rw [hL] at hp
    obtain ⟨q, hq, rfl⟩ := List.mem_map.1 hp
    exact ⟨by have := hk q hq; show q.key.length ≤ _; omega, hv q hq⟩)
  have h1 := hc.points
  have h2 := hc.nodes
  rw [List.length_map] at h1 h2
  have hd := hc.depth (M := 300) hM
  have hct := hc.count
  rw [List.length_map] at hct
  unfold bTr
  rw [if_neg hne2]
  have htn : 1 + (cT 1 301 (rel 0 ps)).2.tn ≤ 600 := by unfold tnT at h2; omega
  have hsl := oshL_len hok.1 hok.2 (m := 600) htn
  exact ⟨hc.fits (fun p hp => by have := hM p hp; omega) (by rw [List.length_map]; omega), hok, ⟨w1.1, Fo.wf_lf w2⟩, by
    refine Nat.le_trans hsl ?_
    omega, by show tnT _ ≤ 1000; unfold tnT; omega, hct, hc.listed, hc.fine (fun p hp => by have := hM p hp; omega), by omega⟩
end Go.Proofs.YtcfokkojoppmkaaGreatDoor

namespace Go.Proofs.YtcfokkojoppmkaaGreatDoor
open Go.RowKit

theorem run_append_nonek {P : Program} (w : World) (base : Nat) (t ty e : TypeId) (i : TypeInfo) (ht : P.underlying t = some (.slice e)) (hi : P.info? e = some i) (k : Nat)
    (v : Value) (n : Nat) (xs : List Value) (hown : w.ownsRow base e k v n xs) (c : Nat) : (Builtin.append_ #[t, t] ty #[v, .slice none 0 c]).run P w = .ok v w := by
  rcases hown.2 with ⟨rfl, rfl⟩ | ⟨g, cap, cur, rfl, _, _, hnc, _⟩
  · simp [Builtin.append_, run_underlying ht, sizeOf, typeInfo, hi, Builtin.lenOf, Builtin.firstCells]
  · simp [Builtin.append_, run_underlying ht, sizeOf, typeInfo, hi, Builtin.lenOf, Builtin.firstCells, hnc, storeCells]
/-- append of many elements that lie in memory: what is left. -/
theorem run_append_many {P : Program} (w : World) {t ty e : TypeId} {z : Value} {k bytes : Nat} (ht : P.underlying t = some (.slice e)) (hi : (P.info? e).map (fun i => (i.zero, i.size, i.bytes)) = some (some z, k, bytes)) (hzs : z.cells.size = k) (hk : 0 < k)
    (base : Nat) (v : Value) (n : Nat) (css : List (List Value)) (hown : MineR w base e k v n css) (B : Nat) (A : Option Addr) (m c : Nat) (ds : List (List Value)) (hr : Rws w B A m k ds) (h1 : ∀ d ∈ ds, ∀ u ∈ d, u.oneCell' = true)
    (hbytes : (n + m) * bytes ≤ 140737488355328) (h63 : n + m ≤ maxLen) (hbase : base ≤ w.heap.size) :
    ∃ v' w', (Builtin.append_ #[t, t] ty #[v, .slice A m c]).run P w = .ok v' w' ∧ MineR w' base e k v' (n + m) (css ++ ds) ∧ w.grownBy w' v.ownBlock ∧ (v'.ownBlock = v.ownBlock ∨ v'.ownBlock = some w.heap.size) := by
  obtain ⟨i0, hi0, hz0, hz1, hz2⟩ := info_parts hi
  have hlen : ∀ d ∈ css ++ ds, d.length = k := fun d hd => by
    rcases List.mem_append.1 hd with q | q
    · exact hown.2.2 d q
    · exact hr.2.2.1 d q
  rcases A with _ | ad
  · have hm : m = 0 := by
      rcases Nat.eq_zero_or_pos m with h0 | h0
      · exact h0
      · obtain ⟨ad, h, _⟩ := hr.2.2.2 h0; cases h
    subst hm
    have : ds = [] := List.eq_nil_of_length_eq_zero hr.1
    subst this
    exact ⟨v, w, run_append_nonek w base t ty e i0 ht hi0 k v n _ hown.1 c, by simpa using hown, World.grownBy.refl w _, .inl rfl⟩
  · have hcells : ∀ j u, ds.flatten[j]? = some u → w.cell? (ad.add j) = some u := by
      intro j u hu
      have hjl := (List.getElem?_eq_some_iff.1 hu).1
      rw [flatten_len hr.2.2.1, hr.1] at hjl
      have h0 : 0 < m := by
        rcases Nat.eq_zero_or_pos m with h0 | h0
        · rw [h0, Nat.zero_mul] at hjl; omega
        · exact h0
      obtain ⟨ad', h, _, hc⟩ := hr.2.2.2 h0
      injection h with h
      subst h
      have hq : j / k < ds.length := by rw [hr.1]; exact Nat.div_lt_of_lt_mul (by rw [Nat.mul_comm]; exact hjl)
      have hd := List.getElem?_eq_getElem hq
      have hi : j % k < k := Nat.mod_lt _ hk
      have hf := flatten_at hr.2.2.1 hd hi
      have hjj : j / k * k + j % k = j := by rw [Nat.mul_comm]; exact Nat.div_add_mod j k
      rw [hjj, hu] at hf
      have := hc (j / k) (j % k) _ u hd hf.symm
      rwa [hjj] at this
    obtain ⟨v', w', hrun, h2, h3, _, h5⟩ := run_append_own_at (P := P) w base t ty e i0 z k bytes ht hi0 hz0 hz1 hz2 hzs hk v n css.flatten hown.1 ad m c ds.flatten (by rw [flatten_len hr.2.2.1, hr.1]) hcells
      (fun u hu => by obtain ⟨d, hd, hud⟩ := List.mem_flatten.1 hu; exact h1 d hd u hud) h63 hbytes hbase
    exact ⟨v', w', hrun, ⟨by rw [List.flatten_append]; exact h2, by rw [List.length_append, hown.2.1, hr.1], hlen⟩, h3, h5⟩
theorem wp_append_many {P : Program} (w : World) {o : Oper} {a : Act} {K : Act → World → Prop} {Q : Exit → Act → World → Prop} (s x : Operand) (t : TypeId)
    (ho : o.op = .call { callee := .builtin .append, args := #[s, x], argTypes := #[t, t] }) {e : TypeId} {z : Value} {k bytes : Nat} (ht : P.underlying t = some (.slice e)) (hi : (P.info? e).map (fun i => (i.zero, i.size, i.bytes)) = some (some z, k, bytes)) (hzs : z.cells.size = k) (hk : 0 < k)
    (base : Nat) (v : Value) (n : Nat) (css : List (List Value)) (hs : a.eval s = v) (hown : MineR w base e k v n css) (B : Nat) (A : Option Addr) (m c : Nat) (ds : List (List Value)) (hx : a.eval x = .slice A m c) (hr : Rws w B A m k ds) (h1 : ∀ d ∈ ds, ∀ u ∈ d, u.oneCell' = true)
    (hbytes : (n + m) * bytes ≤ 140737488355328) (h63 : n + m ≤ maxLen) (hbase : base ≤ w.heap.size)
    (h : ∀ v' w', MineR w' base e k v' (n + m) (css ++ ds) → w.grownBy w' v.ownBlock → (v'.ownBlock = v.ownBlock ∨ v'.ownBlock = some w.heap.size) → K (a.put o.dst v') w') : o.wp P a w K Q := by
  obtain ⟨v', w', hrun, h2, h3, h4⟩ := run_append_many (P := P) w (ty := o.type) ht hi hzs hk base v n css hown B A m c ds hr h1 hbytes h63 hbase
  unfold Oper.wp execOp
  simp only [ho, resolve, invoke, builtin, Sem.run_bind, Sem.run_pure, Result.andThen_ok, List.map_toArray, List.map_cons, List.map_nil, hs, hx, hrun]
  exact h v' w' h2 h3 h4
/-- A row of pairs that is collected: its keys lie in new blocks, not in the row. -/
structure LR (base : Nat) (W : World) (v : Value) (ps xs : List PV) : Prop where
  row : MineR W base 65 2 v ps.length (ps.map pvc)
  key : ∀ p, (p ∈ ps ∨ p ∈ xs) → Byt W W.heap.size p.A p.n p.key ∧ p.n ≤ p.c ∧ ∀ i, Pb p.A p.key i → base ≤ i ∧ v.ownBlock ≠ some i
section
variable {base : Nat} {W : World} {v : Value} {ps xs : List PV}
theorem LR.nil (base : Nat) (W : World) (xs : List PV) (h : ∀ p ∈ xs, Byt W W.heap.size p.A p.n p.key ∧ p.n ≤ p.c ∧ ∀ i, Pb p.A p.key i → base ≤ i) : LR base W (.slice none 0 0) [] xs :=
  ⟨MineR.nil _ _ _ _, fun p hp => by
    rcases hp with q | q
    · cases q
    · obtain ⟨h1, h2, h3⟩ := h p q
      exact ⟨h1, h2, fun i hi => ⟨h3 i hi, by simp [Value.ownBlock]⟩⟩⟩
theorem byt_keep {D : Nat → Prop} {w w' : World} {A : Option Addr} {n : Nat} {l : List UInt8} (h : Byt w w.heap.size A n l) (hk : Kept D w w') (hD : ∀ i, Pb A l i → ¬ D i) : Byt w' w'.heap.size A n l := h.keptS (S := fun i => Pb A l i) (fun _ q => q) hk hD
theorem LR.below (h : LR base W v ps xs) {W' : World} (hb : Below W.heap.size W W') : LR base W' v ps xs :=
  have hk : Kept (fun _ => False) W W' := Kept.of_below hb
  ⟨h.row.keptK hk (fun _ _ q => q), fun p hp => ⟨byt_keep (h.key p hp).1 hk (fun _ _ q => q), (h.key p hp).2⟩⟩
/-- More pairs. -/
theorem LR.more (h : LR base W v ps xs) (hbs : base ≤ W.heap.size) {U2 U3 : World} (hb : Below W.heap.size W U2) {qs : List PV} (hq : ∀ p ∈ qs, Byt U2 U2.heap.size p.A p.n p.key ∧ p.n ≤ p.c ∧ ∀ i, Pb p.A p.key i → base ≤ i ∧ v.ownBlock ≠ some i)
    {v3 : Value} (m3 : MineR U3 base 65 2 v3 (ps.length + qs.length) (ps.map pvc ++ qs.map pvc)) (g3 : U2.grownBy U3 v.ownBlock) (o3 : v3.ownBlock = v.ownBlock ∨ v3.ownBlock = some U2.heap.size) :
    LR base U3 v3 (ps ++ qs) xs ∧ Below base W U3 := by
  have s2 := hb.size
  have k1 := grown_kept hb g3
  have k2 : Kept (fun i => v.ownBlock = some i) U2 U3 := ⟨g3.os, g3.tape, g3.output, g3.size, fun i hi hn => g3.block i hi (fun q => hn q.symm)⟩
  have own3 : ∀ i, v3.ownBlock = some i → v.ownBlock = some i ∨ i = U2.heap.size := fun i hi => by
    rcases o3 with q | q
    · rw [q] at hi; exact .inl hi
    · rw [q] at hi; injection hi with hi; exact .inr hi.symm
  have lb : ∀ i, v.ownBlock = some i → base ≤ i ∧ i < W.heap.size := fun i hi => h.row.lt i hi
  refine ⟨⟨by rw [List.length_append, List.map_append]; exact m3, fun p hp => ?_⟩, k1.below hbs (fun i q => (lb i q).1)⟩
  have hp' : (p ∈ ps ∨ p ∈ xs) ∨ p ∈ qs := by
    rcases hp with q | q
    · rcases List.mem_append.1 q with z | z
      · exact .inl (.inl z)
      · exact .inr z
    · exact .inl (.inr q)
  rcases hp' with q | q
  · obtain ⟨q1, q2, q3⟩ := h.key p q
    refine ⟨byt_keep q1 k1 (fun i hi => (q3 i hi).2), q2, fun i hi => ⟨(q3 i hi).1, fun e => ?_⟩⟩
    rcases own3 i e with z | z
    · exact (q3 i hi).2 z
    · have hn := q1.1
      rw [← hn] at q1
      have := q1.ltPb hi
      omega
  · obtain ⟨q1, q2, q3⟩ := hq p q
    refine ⟨byt_keep q1 k2 (fun i hi => (q3 i hi).2), q2, fun i hi => ⟨(q3 i hi).1, fun e => ?_⟩⟩
    rcases own3 i e with z | z
    · exact (q3 i hi).2 z
    · have hn := q1.1
      rw [← hn] at q1
      have := q1.ltPb hi
      omega
theorem LR.kps (h : LR base W v ps xs) : Kps W W.heap.size ps := fun p hp => ⟨(h.key p (.inl hp)).1, (h.key p (.inl hp)).2.1⟩
end
theorem Mine.grown {v : Value} {n : Nat} {l : List UInt8} {base : Nat} {W U2 U3 : World} {e : TypeId} (h : Mine W base e v n l) (hbs : base ≤ W.heap.size) (hb : Below W.heap.size W U2) (g3 : U2.grownBy U3 v.ownBlock) : Below base W U3 :=
  (grown_kept hb g3).below hbs (fun i q => (h.lt i q).1)
theorem pvc_one (qs : List PV) : ∀ d ∈ qs.map pvc, ∀ u ∈ d, u.oneCell' = true := fun d hd u hu => by
  obtain ⟨p, _, rfl⟩ := List.mem_map.1 hd
  exact pair_one p u hu
theorem list_len (k : Fo) (pw : List UInt8) : (k.list pw).length ≤ k.tn := by
  have h1 := congrArg List.length (Fo.vis_cnt k pw 1)
  rw [List.length_map, listV_len] at h1
  rw [← h1, ← Fo.vis_len k pw 1]
  exact cntV_le _
/-- What list answers. -/
def RLPost (w : World) (L : List KV) (e : Ending) (w' : World) : Prop := ∃ A' c' ps b, e = .returned (.slice A' ps.length c') ∧ ps.length ≤ c' ∧ w.heap.size ≤ b ∧ LR b w' (.slice A' ps.length c') ps [] ∧ ps.map kvP = L ∧ Below w.heap.size w w'
def RLOk (x : Nn) (k : Fo) : Prop := ∀ (B : Nat) (w : World) (cs : List Value) (Aw : Option Addr) (nw cw : Nat) (way : List UInt8) (dd : Nat), Dno w B x k cs → Byt w w.heap.size Aw nw way → B ≤ w.heap.size → k.tn ≤ 1000 → (∀ v ∈ tvis x k way dd, v.way.length ≤ 1000000) →
  Calls Tryz.prog 62 #[.agg cs.toArray, .slice Aw nw cw] w (RLPost w (tlist x k way))
theorem below_none {W U2 U3 : World} (hb : Below W.heap.size W U2) (g3 : U2.grownBy U3 (Value.slice none 0 0).ownBlock) : Below W.heap.size W U3 := (grown_kept (v := .slice none 0 0) hb g3).below (Nat.le_refl _) (fun i q => by simp [Value.ownBlock] at q)

set_option maxRecDepth 100000 in
set_option maxHeartbeats 4000000 in
theorem rlist_step (x : Nn) (k : Fo) (hK : k.All fun _ x k => RLOk x k) : RLOk x k := by
  intro B w cs Aw nw cw way dd hd hwy hB htn hvs
  obtain ⟨d, ek, rfl, ha, hkid⟩ := hd
  have hl : ek.length = d.nk := ha.row.1
  have hkr := ha.kr
  have hnk : d.nk = k.len := by rw [← hl]; exact hkid.len
  have hn9 : d.nk ≤ 9223372036854775807 := by have := ha.row.2.1; unfold maxLen at this; omega
  show Calls Tryz.prog 62 #[.agg (dArr (kdV x k) d x.has x.val), .slice Aw nw cw] w _
  have HTL := Lib.hid (show tlist x k way = (if x.has then [(way ++ x.part, x.val)] else []) ++ k.list (way ++ x.part) from rfl)
  have hv0 : (way ++ x.part).length ≤ 1000000 := hvs ⟨x, k.len, way ++ x.part, dd⟩ (List.mem_cons_self ..)
  have HVS := Lib.hid (show ∀ v ∈ k.vis (way ++ x.part) (dd + 1), v.way.length ≤ 1000000 from fun v hv => hvs v (List.mem_cons_of_mem _ hv))
  have hnw : way.length = nw := hwy.1
  have hnp : x.part.length = d.n := ha.part.1
  have hbl : k.bytes.length = d.nb := ha.byt.1
  have hbk : d.nb = k.len := by rw [← hbl]; exact Fo.bytes_len k
  have htl : (tlist x k way).length ≤ 1001 := by
    rw [HTL.out, List.length_append]
    have := list_len k (way ++ x.part)
    cases x.has <;> simp <;> omega
  generalize kdV x k = kd
  generalize x.has = hs at HTL
  generalize x.val = vl at HTL
  obtain ⟨W, hW⟩ : ∃ V, w.alloc (.cells (dArr kd d hs vl) 45) = V := ⟨_, rfl⟩
  have bW : Below w.heap.size w W := by rw [← hW]; exact (Below.refl _ _).alloc (Nat.le_refl _) _
  have sW : W.heap.size = w.heap.size + 1 := by rw [← hW]; simp
  have lW : Blk W w.heap.size (dArr kd d hs vl) := by rw [← hW]; exact Blk.new w _ _
  have KC1 := Lib.hid (fun V (h : Below W.heap.size W V) => show V.cell? ⟨w.heap.size, 1, none⟩ = some (.slice d.A d.n d.c) from (h.cell (p := ⟨w.heap.size, 1, none⟩) (by show w.heap.size < _; omega)).trans (lW.cell 1))
  have KC2 := Lib.hid (fun V (h : Below W.heap.size W V) => show V.cell? ⟨w.heap.size, 2, none⟩ = some (.bool hs) from (h.cell (p := ⟨w.heap.size, 2, none⟩) (by show w.heap.size < _; omega)).trans (lW.cell 2))
  have KC3 := Lib.hid (fun V (h : Below W.heap.size W V) => show V.cell? ⟨w.heap.size, 3, none⟩ = some (.int .u64 vl) from (h.cell (p := ⟨w.heap.size, 3, none⟩) (by show w.heap.size < _; omega)).trans (lW.cell 3))
  have KC4 := Lib.hid (fun V (h : Below W.heap.size W V) => show V.cell? ⟨w.heap.size, 4, none⟩ = some (.slice d.Ab d.nb d.cb) from (h.cell (p := ⟨w.heap.size, 4, none⟩) (by show w.heap.size < _; omega)).trans (lW.cell 4))
  have KC5 := Lib.hid (fun V (h : Below W.heap.size W V) => show V.cell? ⟨w.heap.size, 5, none⟩ = some (.slice d.Ak d.nk d.ck) from (h.cell (p := ⟨w.heap.size, 5, none⟩) (by show w.heap.size < _; omega)).trans (lW.cell 5))
  have BW := Lib.hid bW
  have HR := Lib.hid (fun V (h : Below W.heap.size W V) => (ha.row.below ((bW.trans (h.mono bW.size)).mono hB)))
  have HD := Lib.hid (fun V (h : Below W.heap.size W V) => ((bW.trans (h.mono bW.size)).mono hB : Below B w V))
  have HL := Lib.hid hl
  have HB := Lib.hid hB
  have HKA := Lib.hid hK
  have HKD := Lib.hid hkid
  have HPT := Lib.hid (fun V (h : Below W.heap.size W V) => show Byt V V.heap.size d.A d.n x.part from (ha.part.below ((bW.trans (h.mono bW.size)).mono hB)).more (Nat.le_trans hB (Nat.le_trans bW.size h.size)))
  have HBY := Lib.hid (fun V (h : Below W.heap.size W V) => (ha.byt.below ((bW.trans (h.mono bW.size)).mono hB)))
  have HBL := Lib.hid (show d.nb = d.nk by omega)
  have HWY := Lib.hid (show Byt W.drew W.drew.heap.size Aw nw way from (hwy.below bW).more bW.size)
  have HTN := Lib.hid htn
  have HTLL := Lib.hid htl
  have hle : nw + d.n ≤ 1000000 := by rw [List.length_append] at hv0; omega
  have SW := Lib.hid bW.size
  have KC1' := KC1.out _ (Below.refl W.heap.size W).drew
  clear ha hkid hl hB hK bW lW hnk hwy htn hvs hv0 hnw hnp hbl hbk htl
  go_enter Tryz.func62, Tryz.ntmps62
  go_wp2_with fail
  refine wp_region_held_drew (S := (fun V => V.cell? ⟨w.heap.size, 1, none⟩ = some (.slice d.A d.n d.c))) (by kernel_rfl) KC1' (fun hHeld => ?_)
  refine wpAnyH_take (i := 0) (oi := { dst := some 8, op := Op.move (Operand.tmp 1), type := 42, pos := "ref.go:100", after := #[], guard := none }) (v := ?v1) rfl (by kernel_rfl) (by kernel_rfl) (by kernel_rfl) (fun _ _ _ h => h) (Or.inl ⟨by rfl, ?hy1⟩) hHeld ?rest1
  case hy1 => (intro w' hSw; (try dsimp only at hSw); go_simp; (try with_reducible rfl))
  try simp only [Act.put, List.setIfInBounds_toArray, List.set_cons_zero, List.set_cons_succ]
  refine wpAnyH_take (i := 2) (oi := { dst := some 10, op := Op.fieldAddr 45 (Operand.tmp 2) 1, type := 0, pos := "ref.go:100", after := #[], guard := none }) (v := ?v2) rfl (by kernel_rfl) (by kernel_rfl) (by kernel_rfl) (fun _ _ _ h => h) (Or.inl ⟨by rfl, ?hy2⟩) hHeld ?rest2
  case hy2 => (intro w' hSw; (try dsimp only at hSw); go_simp; (try with_reducible rfl))
  try simp only [Act.put, List.setIfInBounds_toArray, List.set_cons_zero, List.set_cons_succ]
  refine wpAnyH_take (i := 3) (oi := { dst := some 11, op := Op.load 42 (Operand.tmp 10), type := 42, pos := "ref.go:100", after := #[{ on := 2, ground := Ground.data }], guard := none }) (v := ?v3) rfl (by kernel_rfl) (by kernel_rfl) (by kernel_rfl) (fun _ _ _ h => h) (Or.inl ⟨by rfl, ?hy3⟩) hHeld ?rest3
  case hy3 => (intro w' hSw; (try dsimp only at hSw); go_simp; (try with_reducible rfl))
  try simp only [Act.put, List.setIfInBounds_toArray, List.set_cons_zero, List.set_cons_succ]
  refine wpAnyH_ready (rs := [1]) (by kernel_rfl) (by simp) (AllReadyH.cons (o := { dst := some 9, op := Op.call { callee := Callee.builtin Builtin.append, args := #[Operand.const (Value.slice none 0 0), Operand.tmp 8], argTypes := #[42, 42] }, type := 42, pos := "ref.go:100", after := #[{ on := 0, ground := Ground.data }], guard := none }) rfl (fun K hK => ?_) AllReadyH.nil)
  rw [if_pos (by rfl)]
  refine wp_append_byt _ (.const (.slice none 0 0)) (.tmp 8) _ rfl Tryz.underlying42 info_u8 W.heap.size (.slice none 0 0) 0 [] (by rfl) (Mine.nil _ _ _) W.drew.heap.size Aw nw cw way (by rfl) HWY.out (by omega) (Nat.le_refl _) ?_
  intro v1 U1 m1 g1 o1
  obtain ⟨A1, c1, rfl⟩ := m1.slice
  rw [Nat.zero_add, List.nil_append] at m1
  have M1 := Lib.hid m1
  have B1 := Lib.hid (below_none (W := W) (Below.refl W.heap.size W).drew g1)
  rw [Nat.zero_add]
  clear m1 g1 o1
  refine hK.out _ _ (KC1.out U1 B1.out) (fun hHeld' => ?_)
  clear hK K hHeld
  have hHeld := hHeld'
  clear hHeld'
  try simp only [Act.put, List.setIfInBounds_toArray, List.set_cons_zero, List.set_cons_succ]
  refine wpAnyH_ready (rs := [4]) (by kernel_rfl) (by simp) (AllReadyH.cons (o := { dst := some 12, op := Op.call { callee := Callee.builtin Builtin.append, args := #[Operand.tmp 9, Operand.tmp 11], argTypes := #[42, 42] }, type := 42, pos := "ref.go:100", after := #[{ on := 1, ground := Ground.data }, { on := 3, ground := Ground.data }, { on := 1, ground := Ground.chain }], guard := none }) rfl (fun K hK => ?_) AllReadyH.nil)
  rw [if_pos (by rfl)]
  refine wp_append_byt _ (.tmp 9) (.tmp 11) _ rfl Tryz.underlying42 info_u8 W.heap.size (.slice A1 nw c1) nw way (by rfl) M1.out U1.heap.size d.A d.n d.c x.part (by rfl) (HPT.out U1 B1.out) (by omega) B1.out.size ?_
  intro v2 U2 m2 g2 o2
  obtain ⟨A2, c2, rfl⟩ := m2.slice
  have M2 := Lib.hid m2
  have B2 := Lib.hid (B1.out.trans (M1.out.grown B1.out.size (Below.refl _ _) g2))
  clear m2 g2 o2
  refine hK.out _ _ (KC1.out U2 B2.out) (fun hHeld' => ?_)
  clear hK K hHeld
  have hHeld := hHeld'
  clear hHeld'
  try simp only [Act.put, List.setIfInBounds_toArray, List.set_cons_zero, List.set_cons_succ]
  refine wpAnyH_take (i := 5) (oi := { dst := some 6, op := Op.assign (Operand.tmp 12), type := 42, pos := "ref.go:100", after := #[{ on := 4, ground := Ground.data }, { on := 4, ground := Ground.chain }, { on := 0, ground := Ground.phase }, { on := 1, ground := Ground.phase }, { on := 2, ground := Ground.phase }, { on := 3, ground := Ground.phase }, { on := 4, ground := Ground.phase }], guard := none }) (v := ?v4) rfl (by kernel_rfl) (by kernel_rfl) (by kernel_rfl) (fun _ _ _ h => h) (Or.inl ⟨by rfl, ?hy4⟩) hHeld ?rest4
  case hy4 => (intro w' hSw; (try dsimp only at hSw); go_simp; (try with_reducible rfl))
  try simp only [Act.put, List.setIfInBounds_toArray, List.set_cons_zero, List.set_cons_succ]
  refine wpAnyH_done (by kernel_rfl) ?_ _
  obtain ⟨key, hky⟩ : ∃ l, way ++ x.part = l := ⟨_, rfl⟩
  obtain ⟨nk, hnk⟩ : ∃ q, nw + d.n = q := ⟨_, rfl⟩
  rw [hky] at HTL HVS M2
  rw [hnk] at M2 hle ⊢
  have hkr2 : nk ≤ c2 := Mine.room M2.out
  have hky2 : ∀ i, Pb A2 key i → W.heap.size ≤ i := fun i hi => by
    obtain ⟨a, e, e2⟩ := hi.2
    exact (M2.out.lt i (by rw [show A2 = some a from e, ← e2]; rfl)).1
  have LR0 := Lib.hid (show LR W.heap.size U2 (.slice none 0 0) [] [⟨A2, nk, c2, key, 0⟩] from LR.nil _ _ _ (fun p hp => by
    simp only [List.mem_singleton] at hp
    subst hp
    exact ⟨M2.out.byt, hkr2, hky2⟩))
  have MB2 := Lib.hid M2.out.byt
  have HKL := Lib.hid (show key.length = nk from M2.out.byt.1)
  have HKP := Lib.hid hky2
  have cl2 := KC2.out U2 B2.out
  clear hky hnk M1 M2 B1 KC1' HWY hky2
  cases hs with
  | true =>
    have KC3' := KC3.out U2 B2.out
    have HT1 := Lib.hid (show tlist x k way = [(key, vl)] ++ k.list key from HTL.out)
    have LB3 := Lib.hid (pair_cells (p := ⟨A2, nk, c2, key, vl⟩) (Blk.new U2 65 #[.slice A2 nk c2, .int .u64 vl]))
    have Y3 := Lib.hid (show Below U2.heap.size U2 (U2.alloc (.cells #[.slice A2 nk c2, .int .u64 vl] 65)) from (Below.refl _ _).alloc (Nat.le_refl _) _)
    have B3 := Lib.hid (B2.out.trans (Y3.out.mono B2.out.size))
    go_wp2_with (at_builtin
                 refine wpList_append_rws (U2.alloc (.cells #[.slice A2 nk c2, .int .u64 vl] 65)) rfl (.tmp 15) (.tmp 20) _ rfl Tryz.underlying22 info_kpair (by rfl) (by decide) W.heap.size (.slice none 0 0) 0 [] rfl (MineR.nil _ _ _ _) ⟨U2.heap.size, 0, none⟩ 1 (pvc ⟨A2, nk, c2, key, vl⟩) rfl rfl LB3.out (pair_one _) (by omega) (by unfold maxLen; omega) B3.out.size ?_
                 intro v3 U4 m3 g3 o3
                 obtain ⟨A4, c4, rfl, _⟩ := m3.slice
                 obtain ⟨x1, x2⟩ := LR.more LR0.out B2.out.size Y3.out (qs := [⟨A2, nk, c2, key, vl⟩]) (fun p hp => by
                   simp only [List.mem_singleton] at hp
                   subst hp
                   exact ⟨(MB2.out.below Y3.out).more Y3.out.size, hkr2, fun i hi => ⟨HKP.out i hi, by simp [Value.ownBlock]⟩⟩) m3 g3 o3
                 have LR4 := Lib.hid x1
                 have B4 := Lib.hid (B2.out.trans x2)
                 clear m3 g3 o3 x1 x2)
    go_upto_region 5 with fail
    clear LR0 cl2 KC3' HTL LB3 Y3 B3
    generalize U4 = Ue at LR4 B4 ⊢
    have LRS := Lib.hid (show LR W.heap.size Ue (.slice A4 1 c4) [⟨A2, nk, c2, key, vl⟩] [⟨A2, nk, c2, key, 0⟩] from LR4.out)
    have HPL := Lib.hid (show ([⟨A2, nk, c2, key, vl⟩] : List PV).map kvP ++ k.list key = tlist x k way from HT1.out.symm)
    have BS := Lib.hid B4.out
    clear LR4 B4 HT1
    have BSK := Lib.hid BS.out.size
    go_wp2_with fail
    go_loopw [5, 7] (fun ov iv wr => ∃ (j : Nat) (ps : List PV) (r : Fo), j ≤ d.nk ∧ iv = .int .i64 j ∧ Hid (LR W.heap.size wr ov ps [⟨A2, nk, c2, key, 0⟩]) ∧ Hid (ps.map kvP ++ r.list key = tlist x k way ∧ r.tn ≤ 1000 ∧ ∀ v ∈ r.vis key (dd + 1), v.way.length ≤ 1000000) ∧ Hid ((r.All fun _ x k => RLOk x k) ∧ k.bytes.drop j = r.bytes ∧ r.Dis w B (ek.drop j)) ∧ Hid (Below W.heap.size W wr)) (fun _ iv _ => d.nk - (intOf iv).toNat)
    case atStart => exact ⟨0, _, k, Nat.zero_le _, rfl, LRS, Lib.hid ⟨HPL.out, HTN.out, HVS.out⟩, Lib.hid ⟨HKA.out, rfl, HKD.out⟩, BS⟩
    case round =>
      obtain ⟨j, ps, r, hj, rfl, HL1, HP, HF, HBr⟩ := hrel
      have c5 := KC5.out wr HBr.out
      obtain ⟨Ao, co, e, hoc⟩ := HL1.out.row.slice
      subst e
      have hps : ps.length ≤ 1001 := by
        have h2 := congrArg List.length HP.out.1
        rw [List.length_append, List.length_map] at h2
        have := HTLL.out
        omega
      by_cases h1 : j < d.nk
      · obtain ⟨hall, hrb, hdis⟩ := HF.out
        obtain ⟨b, x', k', r', d', e2, rfl, hej, hat, hk2, hr2⟩ := hdis.at_ (by have := HL.out; omega)
        obtain ⟨ad, hA, hlt, _⟩ := kid_cells (HR.out wr HBr.out) h1 hej
        obtain ⟨adb, b', hAb, _, hb1, _⟩ := (HBY.out wr HBr.out).at_ (show j < d.nb by rw [HBL.out]; exact h1)
        obtain ⟨q1, q2⟩ := drop_cons (show k.bytes.drop j = b :: r'.bytes from hrb)
        rw [q1] at hb1
        injection hb1 with hb1
        subst hb1
        obtain ⟨p1, p2, p3⟩ := HP.out
        have htn2 : (Fo.cons b x' k' r').tn = 1 + k'.tn + r'.tn := rfl
        rw [htn2] at p2
        rw [Fo.list_cons] at p1
        rw [Fo.vis_cons] at p3
        have HC := Lib.hid (fun V (hb : Below W.heap.size W V) (A : Option Addr) (n c : Nat) (hy : Byt V V.heap.size A n (key ++ [b])) => hall.1 B V (d'.cells x' k') A n c (key ++ [b]) (dd + 1) ⟨d', e2, rfl, hat.below (HD.out V hb), hk2.below (HD.out V hb)⟩ hy (Nat.le_trans HB.out (Nat.le_trans SW.out hb.size)) (by omega) (fun v hv => p3 v (List.mem_append_left _ hv)))
        have hck : (d'.cells x' k').toArray = dArr (kdV x' k') d' x'.has x'.val := rfl
        rw [hck] at HC
        have SS := Lib.hid (fun V (hb : Below W.heap.size W V) => show V.cell? ⟨w.heap.size, 4, none⟩ = some (.slice (some adb) d.nk d.cb) ∧ V.cell? ⟨w.heap.size, 5, none⟩ = some (.slice (some ad) d.nk d.ck) ∧ V.cell? (adb.add j) = some (.int .u8 (b.toNat : Int)) ∧ dCells V (ad.add (j * 6)) (kdV x' k') d' x'.has x'.val from by
          obtain ⟨ad0, hA0, _, f0, f1, f2, f3, f4, f5⟩ := kid_cells (HR.out V hb) h1 hej
          rw [hA] at hA0
          injection hA0 with hA0
          subst hA0
          obtain ⟨adb0, b0, hAb0, _, hb0, hb2⟩ := (HBY.out V hb).at_ (show j < d.nb by rw [HBL.out]; exact h1)
          rw [hAb] at hAb0
          injection hAb0 with hAb0
          subst hAb0
          rw [q1] at hb0
          injection hb0 with hb0
          subst hb0
          have g4 := KC4.out V hb
          have g5 := KC5.out V hb
          rw [hAb, HBL.out] at g4
          rw [hA] at g5
          exact ⟨g4, g5, hb2, f0, f1, f2, f3, f4, f5⟩)
        have HQL := Lib.hid (show (tlist x' k' (key ++ [b])).length ≤ 1001 from by
          have h2 := list_len k' ((key ++ [b]) ++ x'.part)
          unfold tlist
          rw [List.length_append]
          split
          · rw [List.length_singleton]; omega
          · rw [List.length_nil]; omega)
        have HP2 := Lib.hid (fun (qs : List PV) (h : qs.map kvP = tlist x' k' (key ++ [b])) => show (ps ++ qs).map kvP ++ r'.list key = tlist x k way ∧ r'.tn ≤ 1000 ∧ ∀ v ∈ r'.vis key (dd + 1), v.way.length ≤ 1000000 from ⟨by rw [← p1, List.map_append, h, List.append_assoc], by omega, fun v hv => p3 v (List.mem_append_right _ hv)⟩)
        have HF2 := Lib.hid (show (r'.All fun _ x k => RLOk x k) ∧ k.bytes.drop (j + 1) = r'.bytes ∧ r'.Dis w B (ek.drop (j + 1)) from ⟨hall.2, q2, hr2⟩)
        have S3 := Lib.hid (fun V (h : Below wr.heap.size wr V) => SS.out V (HBr.out.trans (h.mono HBr.out.size)))
        have BR3 := Lib.hid (fun V (h : Below wr.heap.size wr V) => show Below W.heap.size W V from HBr.out.trans (h.mono HBr.out.size))
        have LRV := Lib.hid (fun V (hb : Below wr.heap.size wr V) => HL1.out.below hb)
        have KYV := Lib.hid (fun V (h : Below wr.heap.size wr V) => show Byt V V.heap.size A2 nk key from ((HL1.out.key ⟨A2, nk, c2, key, 0⟩ (.inr (List.mem_singleton.2 rfl))).1.below h).more h.size)
        generalize kdV x' k' = kd' at SS S3 HC
        have ij : (j : Int) < (d.nk : Int) := by omega
        have hWr : W.heap.size ≤ wr.heap.size := HBr.out.size
        obtain ⟨bz, hbz⟩ : ∃ z : Int, (b.toNat : Int) = z := ⟨_, rfl⟩
        have HBZ := Lib.hid hbz
        rw [hbz] at SS S3
        rw [hA] at c5
        clear hA hAb hall hrb hdis hej hat hk2 hr2 hck HF q1 q2 hlt p1 p2 p3 htn2 HP hbz
        go_wp2_with fail
        refine wp_region_held_drew (S := (fun V => V.cell? ⟨w.heap.size, 4, none⟩ = some (.slice (some adb) d.nk d.cb) ∧ V.cell? ⟨w.heap.size, 5, none⟩ = some (.slice (some ad) d.nk d.ck) ∧ V.cell? (adb.add j) = some (.int .u8 bz) ∧ dCells V (ad.add (j * 6)) kd' d' x'.has x'.val)) (by kernel_rfl) (S3.out _ (Below.refl wr.heap.size wr).drew) (fun hHeld => ?_)
        refine wpAnyH_take (i := 0) (oi := { dst := some 29, op := Op.move (Operand.tmp 5), type := 22, pos := "ref.go:105", after := #[], guard := none }) (v := ?v11) rfl (by kernel_rfl) (by kernel_rfl) (by kernel_rfl) (fun _ _ _ h => h) (Or.inl ⟨by rfl, ?hy11⟩) hHeld ?rest11
        case hy11 => (intro w' hSw; (try dsimp only at hSw); go_simp; (try with_reducible rfl))
        try simp only [Act.put, List.setIfInBounds_toArray, List.set_cons_zero, List.set_cons_succ]
        refine wpAnyH_take (i := 1) (oi := { dst := some 30, op := Op.fieldAddr 45 (Operand.tmp 2) 5, type := 0, pos := "ref.go:105", after := #[], guard := none }) (v := ?v12) rfl (by kernel_rfl) (by kernel_rfl) (by kernel_rfl) (fun _ _ _ h => h) (Or.inl ⟨by rfl, ?hy12⟩) hHeld ?rest12
        case hy12 => (intro w' hSw; (try dsimp only at hSw); go_simp; (try with_reducible rfl))
        try simp only [Act.put, List.setIfInBounds_toArray, List.set_cons_zero, List.set_cons_succ]
        refine wpAnyH_take (i := 2) (oi := { dst := some 31, op := Op.load 43 (Operand.tmp 30), type := 43, pos := "ref.go:105", after := #[{ on := 1, ground := Ground.data }], guard := none }) (v := ?v13) rfl (by kernel_rfl) (by kernel_rfl) (by kernel_rfl) (fun _ _ _ h => h) (Or.inl ⟨by rfl, ?hy13⟩) hHeld ?rest13
        case hy13 => (intro w' hSw; (try dsimp only at hSw); go_simp; (try with_reducible rfl))
        try simp only [Act.put, List.setIfInBounds_toArray, List.set_cons_zero, List.set_cons_succ]
        refine wpAnyH_take (i := 3) (oi := { dst := some 32, op := Op.move (Operand.tmp 7), type := 3, pos := "ref.go:105", after := #[], guard := none }) (v := ?v14) rfl (by kernel_rfl) (by kernel_rfl) (by kernel_rfl) (fun _ _ _ h => h) (Or.inl ⟨by rfl, ?hy14⟩) hHeld ?rest14
        case hy14 => (intro w' hSw; (try dsimp only at hSw); go_simp; (try with_reducible rfl))
        try simp only [Act.put, List.setIfInBounds_toArray, List.set_cons_zero, List.set_cons_succ]
        refine wpAnyH_take (i := 4) (oi := { dst := some 33, op := Op.indexAddr 43 (Operand.tmp 31) (Operand.tmp 32), type := 0, pos := "ref.go:105", after := #[{ on := 2, ground := Ground.data }, { on := 3, ground := Ground.data }], guard := none }) (v := ?v15) rfl (by kernel_rfl) (by kernel_rfl) (by kernel_rfl) (fun _ _ _ h => h) (Or.inl ⟨by rfl, ?hy15⟩) hHeld ?rest15
        case hy15 => (intro w' hSw; (try dsimp only at hSw); go_simp; (try with_reducible rfl))
        try simp only [Act.put, List.setIfInBounds_toArray, List.set_cons_zero, List.set_cons_succ]
        refine wpAnyH_take (i := 5) (oi := { dst := some 34, op := Op.load 45 (Operand.tmp 33), type := 45, pos := "ref.go:105", after := #[{ on := 4, ground := Ground.data }], guard := none }) (v := ?v16) rfl (by kernel_rfl) (by kernel_rfl) (by kernel_rfl) (fun _ _ _ h => h) (Or.inl ⟨by rfl, ?hy16⟩) hHeld ?rest16
        case hy16 => (intro w' hSw; (try dsimp only at hSw); go_simp; (try with_reducible rfl))
        try simp only [Act.put, List.setIfInBounds_toArray, List.set_cons_zero, List.set_cons_succ]
        refine wpAnyH_take (i := 6) (oi := { dst := some 35, op := Op.move (Operand.tmp 6), type := 42, pos := "ref.go:105", after := #[], guard := none }) (v := ?v17) rfl (by kernel_rfl) (by kernel_rfl) (by kernel_rfl) (fun _ _ _ h => h) (Or.inl ⟨by rfl, ?hy17⟩) hHeld ?rest17
        case hy17 => (intro w' hSw; (try dsimp only at hSw); go_simp; (try with_reducible rfl))
        try simp only [Act.put, List.setIfInBounds_toArray, List.set_cons_zero, List.set_cons_succ]
        refine wpAnyH_take (i := 8) (oi := { dst := some 37, op := Op.fieldAddr 45 (Operand.tmp 2) 4, type := 0, pos := "ref.go:105", after := #[], guard := none }) (v := ?v18) rfl (by kernel_rfl) (by kernel_rfl) (by kernel_rfl) (fun _ _ _ h => h) (Or.inl ⟨by rfl, ?hy18⟩) hHeld ?rest18
        case hy18 => (intro w' hSw; (try dsimp only at hSw); go_simp; (try with_reducible rfl))
        try simp only [Act.put, List.setIfInBounds_toArray, List.set_cons_zero, List.set_cons_succ]
        refine wpAnyH_take (i := 9) (oi := { dst := some 38, op := Op.load 42 (Operand.tmp 37), type := 42, pos := "ref.go:105", after := #[{ on := 8, ground := Ground.data }], guard := none }) (v := ?v19) rfl (by kernel_rfl) (by kernel_rfl) (by kernel_rfl) (fun _ _ _ h => h) (Or.inl ⟨by rfl, ?hy19⟩) hHeld ?rest19
        case hy19 => (intro w' hSw; (try dsimp only at hSw); go_simp; (try with_reducible rfl))
        try simp only [Act.put, List.setIfInBounds_toArray, List.set_cons_zero, List.set_cons_succ]
        refine wpAnyH_take (i := 10) (oi := { dst := some 39, op := Op.move (Operand.tmp 7), type := 3, pos := "ref.go:105", after := #[], guard := none }) (v := ?v20) rfl (by kernel_rfl) (by kernel_rfl) (by kernel_rfl) (fun _ _ _ h => h) (Or.inl ⟨by rfl, ?hy20⟩) hHeld ?rest20
        case hy20 => (intro w' hSw; (try dsimp only at hSw); go_simp; (try with_reducible rfl))
        try simp only [Act.put, List.setIfInBounds_toArray, List.set_cons_zero, List.set_cons_succ]
        refine wpAnyH_take (i := 11) (oi := { dst := some 40, op := Op.indexAddr 42 (Operand.tmp 38) (Operand.tmp 39), type := 0, pos := "ref.go:105", after := #[{ on := 9, ground := Ground.data }, { on := 10, ground := Ground.data }], guard := none }) (v := ?v21) rfl (by kernel_rfl) (by kernel_rfl) (by kernel_rfl) (fun _ _ _ h => h) (Or.inl ⟨by rfl, ?hy21⟩) hHeld ?rest21
        case hy21 => (intro w' hSw; (try dsimp only at hSw); go_simp; (try with_reducible rfl))
        try simp only [Act.put, List.setIfInBounds_toArray, List.set_cons_zero, List.set_cons_succ]
        refine wpAnyH_take (i := 12) (oi := { dst := some 41, op := Op.load 5 (Operand.tmp 40), type := 5, pos := "ref.go:105", after := #[{ on := 11, ground := Ground.data }], guard := none }) (v := ?v22) rfl (by kernel_rfl) (by kernel_rfl) (by kernel_rfl) (fun _ _ _ h => h) (Or.inl ⟨by rfl, ?hy22⟩) hHeld ?rest22
        case hy22 => (intro w' hSw; (try dsimp only at hSw); go_simp; (try with_reducible rfl))
        try simp only [Act.put, List.setIfInBounds_toArray, List.set_cons_zero, List.set_cons_succ]
        refine wpAnyH_ready (rs := [7, 13]) (by kernel_rfl) (by simp) (AllReadyH.cons (o := { dst := some 36, op := Op.call { callee := Callee.builtin Builtin.append, args := #[Operand.const (Value.slice none 0 0), Operand.tmp 35], argTypes := #[42, 42] }, type := 42, pos := "ref.go:105", after := #[{ on := 6, ground := Ground.data }], guard := none }) rfl (fun K hK => ?_) (AllReadyH.cons (o := { dst := some 42, op := Op.buildSlice 42 1 #[(0, Operand.tmp 41)], type := 42, pos := "ref.go:105", after := #[{ on := 12, ground := Ground.data }], guard := none }) rfl (fun K hK => ?_) AllReadyH.nil))
        · rw [if_pos (by rfl)]
          refine wp_append_byt _ (.const (.slice none 0 0)) (.tmp 35) _ rfl Tryz.underlying42 info_u8 wr.heap.size (.slice none 0 0) 0 [] (by rfl) (Mine.nil _ _ _) (wr.drew).heap.size A2 nk c2 key (by rfl) (KYV.out _ (Below.refl wr.heap.size wr).drew) (by omega) (Nat.le_refl _) ?_
          intro v1 U1 m1 g1 o1
          obtain ⟨A6, c6, rfl⟩ := m1.slice
          rw [Nat.zero_add, List.nil_append] at m1
          have M1 := Lib.hid m1
          have B1 := Lib.hid (below_none (W := wr) (Below.refl wr.heap.size wr).drew g1)
          rw [Nat.zero_add]
          clear m1 g1 o1
          refine hK.out _ _ (S3.out _ B1.out) (fun hHeld' => ?_)
          clear hK K hHeld
          have hHeld := hHeld'
          clear hHeld'
          try simp only [Act.put, List.setIfInBounds_toArray, List.set_cons_zero, List.set_cons_succ]
          refine wpAnyH_ready (rs := [13]) (by kernel_rfl) (by simp) (AllReadyH.cons (o := { dst := some 42, op := Op.buildSlice 42 1 #[(0, Operand.tmp 41)], type := 42, pos := "ref.go:105", after := #[{ on := 12, ground := Ground.data }], guard := none }) rfl (fun K hK => ?_) AllReadyH.nil)
          go_simp
          obtain ⟨U2, hU2⟩ : ∃ V, U1.alloc (.cells #[.int .u8 bz] 5) = V := ⟨_, rfl⟩
          have B2 := Lib.hid (show Below wr.heap.size wr U2 by rw [← hU2]; exact B1.out.alloc B1.out.size _)
          have LBy := Lib.hid (show Byt U2 U2.heap.size (some ⟨U1.heap.size, 0, none⟩) 1 [b] by rw [← hU2]; exact (byt_one U1 5 (u := b) HBZ.out.symm).more (by simp))
          have M7 := Lib.hid (show Mine U2 wr.heap.size 5 (.slice A6 nk c6) nk key by rw [← hU2]; exact M1.out.alloc _)
          rw [hU2]
          clear hU2
          refine hK.out _ _ (S3.out _ B2.out) (fun hHeld' => ?_)
          clear hK K hHeld
          have hHeld := hHeld'
          clear hHeld'
          try simp only [Act.put, List.setIfInBounds_toArray, List.set_cons_zero, List.set_cons_succ]
          refine wpAnyH_ready (rs := [14]) (by kernel_rfl) (by simp) (AllReadyH.cons (o := { dst := some 43, op := Op.call { callee := Callee.builtin Builtin.append, args := #[Operand.tmp 36, Operand.tmp 42], argTypes := #[42, 42] }, type := 42, pos := "ref.go:105", after := #[{ on := 7, ground := Ground.data }, { on := 13, ground := Ground.data }, { on := 7, ground := Ground.chain }], guard := none }) rfl (fun K hK => ?_) AllReadyH.nil)
          rw [if_pos (by rfl)]
          refine wp_append_byt _ (.tmp 36) (.tmp 42) _ rfl Tryz.underlying42 info_u8 wr.heap.size (.slice A6 nk c6) nk key (by rfl) M7.out U2.heap.size (some ⟨U1.heap.size, 0, none⟩) 1 1 [b] (by rfl) LBy.out (by omega) B2.out.size ?_
          intro v4 U4 m4 g4 o4
          obtain ⟨A8, c8, rfl⟩ := m4.slice
          have Y4 := Lib.hid m4.byt
          have B4 := Lib.hid (B2.out.trans (M7.out.grown B2.out.size (Below.refl _ _) g4))
          clear m4 g4 o4
          refine hK.out _ _ (S3.out _ B4.out) (fun hHeld' => ?_)
          clear hK K hHeld
          have hHeld := hHeld'
          clear hHeld'
          try simp only [Act.put, List.setIfInBounds_toArray, List.set_cons_zero, List.set_cons_succ]
          refine wpAnyH_ready (rs := [15]) (by kernel_rfl) (by simp) (AllReadyH.cons (o := { dst := some 44, op := Op.call { callee := Callee.value (Operand.func 62), args := #[Operand.tmp 34, Operand.tmp 43], argTypes := #[45, 42] }, type := 22, pos := "ref.go:105", after := #[{ on := 5, ground := Ground.data }, { on := 14, ground := Ground.data }, { on := 14, ground := Ground.chain }], guard := none }) rfl (fun K hK => ?_) AllReadyH.nil)
          go_simp
          (with_reducible refine (HC.out U4 (BR3.out _ B4.out) A8 (nk + 1) c8 Y4.out).mono ?_)
          rintro e U5 ⟨A9, c9, qs, bq, rfl, hqc, hbq, lr5, hqs, b5⟩
          have B5 := Lib.hid (B4.out.trans (b5.mono B4.out.size))
          have LR5 := Lib.hid lr5
          have HQS := Lib.hid hqs
          have hql : qs.length ≤ 1001 := by have h2 := congrArg List.length HQS.out; rw [List.length_map] at h2; have := HQL.out; omega
          have hB4 := B4.out.size
          clear lr5 hqs b5
          go_wp2_with fail
          refine hK.out _ _ (S3.out _ B5.out) (fun hHeld' => ?_)
          clear hK K hHeld
          have hHeld := hHeld'
          clear hHeld'
          try simp only [Act.put, List.setIfInBounds_toArray, List.set_cons_zero, List.set_cons_succ]
          refine wpAnyH_ready (rs := [16]) (by kernel_rfl) (by simp) (AllReadyH.cons (o := { dst := some 45, op := Op.call { callee := Callee.builtin Builtin.append, args := #[Operand.tmp 29, Operand.tmp 44], argTypes := #[22, 22] }, type := 22, pos := "ref.go:105", after := #[{ on := 0, ground := Ground.data }, { on := 15, ground := Ground.data }, { on := 15, ground := Ground.chain }], guard := none }) rfl (fun K hK => ?_) AllReadyH.nil)
          rw [if_pos (by rfl)]
          refine wp_append_many _ (.tmp 29) (.tmp 44) _ rfl Tryz.underlying22 info_kpair (by rfl) (by decide) W.heap.size (.slice Ao ps.length co) ps.length (ps.map pvc) (by rfl) (LRV.out U5 B5.out).row U5.heap.size A9 qs.length c9 (qs.map pvc) (by rfl) LR5.out.row.rws (pvc_one qs) (by omega) (by unfold maxLen; omega) (by have := B5.out.size; omega) ?_
          intro v6 U6 m6 g6 o6
          obtain ⟨Az, cz, rfl, _⟩ := m6.slice
          obtain ⟨x1, x2⟩ := LR.more HL1.out hWr B5.out (qs := qs) (fun p hp => ⟨(LR5.out.key p (.inl hp)).1, (LR5.out.key p (.inl hp)).2.1, fun i hi => ⟨by have := ((LR5.out.key p (.inl hp)).2.2 i hi).1; omega, fun e => by have h3 := ((LR5.out.key p (.inl hp)).2.2 i hi).1; have h4 := (HL1.out.row.lt i e).2; omega⟩⟩) m6 g6 o6
          have LR6 := Lib.hid x1
          have B6 := Lib.hid (HBr.out.trans x2)
          clear m6 g6 o6 x1 x2
          refine hK.out _ _ (SS.out _ B6.out) (fun hHeld' => ?_)
          clear hK K hHeld
          have hHeld := hHeld'
          clear hHeld'
          try simp only [Act.put, List.setIfInBounds_toArray, List.set_cons_zero, List.set_cons_succ]
          refine wpAnyH_take (i := 17) (oi := { dst := some 5, op := Op.assign (Operand.tmp 45), type := 22, pos := "ref.go:105", after := #[{ on := 16, ground := Ground.data }, { on := 16, ground := Ground.chain }, { on := 0, ground := Ground.phase }, { on := 1, ground := Ground.phase }, { on := 2, ground := Ground.phase }, { on := 3, ground := Ground.phase }, { on := 4, ground := Ground.phase }, { on := 5, ground := Ground.phase }, { on := 6, ground := Ground.phase }, { on := 7, ground := Ground.phase }, { on := 8, ground := Ground.phase }, { on := 9, ground := Ground.phase }, { on := 10, ground := Ground.phase }, { on := 11, ground := Ground.phase }, { on := 12, ground := Ground.phase }, { on := 13, ground := Ground.phase }, { on := 14, ground := Ground.phase }, { on := 15, ground := Ground.phase }, { on := 16, ground := Ground.phase }], guard := none }) (v := ?v23) rfl (by kernel_rfl) (by kernel_rfl) (by kernel_rfl) (fun _ _ _ h => h) (Or.inl ⟨by rfl, ?hy23⟩) hHeld ?rest23
          case hy23 => (intro w' hSw; (try dsimp only at hSw); go_simp; (try with_reducible rfl))
          try simp only [Act.put, List.setIfInBounds_toArray, List.set_cons_zero, List.set_cons_succ]
          refine wpAnyH_done (by kernel_rfl) ?_ _
          have HP6 := Lib.hid (HP2.out qs HQS.out)
          go_wp2
          exact ⟨⟨j + 1, ps ++ qs, r', by omega, by go_num, LR6, HP6, HF2, B6⟩, by simp [intOf]; omega⟩
        · go_simp
          obtain ⟨U1, hU1⟩ : ∃ V, (wr.alloc (.cells #[.int .u8 bz] 5)).drew = V := ⟨_, rfl⟩
          have B1 := Lib.hid (show Below wr.heap.size wr U1 by rw [← hU1]; exact ((Below.refl _ _).alloc (Nat.le_refl _) _).drew)
          have LB1 := Lib.hid (show Byt U1 U1.heap.size (some ⟨wr.heap.size, 0, none⟩) 1 [b] by rw [← hU1]; exact (byt_one wr 5 (u := b) HBZ.out.symm).more (by simp))
          rw [hU1]
          clear hU1
          refine hK.out _ _ (S3.out _ B1.out) (fun hHeld' => ?_)
          clear hK K hHeld
          have hHeld := hHeld'
          clear hHeld'
          try simp only [Act.put, List.setIfInBounds_toArray, List.set_cons_zero, List.set_cons_succ]
          refine wpAnyH_ready (rs := [7]) (by kernel_rfl) (by simp) (AllReadyH.cons (o := { dst := some 36, op := Op.call { callee := Callee.builtin Builtin.append, args := #[Operand.const (Value.slice none 0 0), Operand.tmp 35], argTypes := #[42, 42] }, type := 42, pos := "ref.go:105", after := #[{ on := 6, ground := Ground.data }], guard := none }) rfl (fun K hK => ?_) AllReadyH.nil)
          rw [if_pos (by rfl)]
          refine wp_append_byt _ (.const (.slice none 0 0)) (.tmp 35) _ rfl Tryz.underlying42 info_u8 wr.heap.size (.slice none 0 0) 0 [] (by rfl) (Mine.nil _ _ _) (U1).heap.size A2 nk c2 key (by rfl) (KYV.out _ B1.out) (by omega) B1.out.size ?_
          intro v1 U2 m1 g1 o1
          obtain ⟨A6, c6, rfl⟩ := m1.slice
          rw [Nat.zero_add, List.nil_append] at m1
          have M1 := Lib.hid m1
          have B2 := Lib.hid (below_none (W := wr) B1.out g1)
          have LBy := Lib.hid ((LB1.out.below (below_none (W := U1) (Below.refl _ _) g1)).more (below_none (W := U1) (Below.refl _ _) g1).size)
          have M7 := Lib.hid m1
          rw [Nat.zero_add]
          clear m1 g1 o1
          refine hK.out _ _ (S3.out _ B2.out) (fun hHeld' => ?_)
          clear hK K hHeld
          have hHeld := hHeld'
          clear hHeld'
          try simp only [Act.put, List.setIfInBounds_toArray, List.set_cons_zero, List.set_cons_succ]
          refine wpAnyH_ready (rs := [14]) (by kernel_rfl) (by simp) (AllReadyH.cons (o := { dst := some 43, op := Op.call { callee := Callee.builtin Builtin.append, args := #[Operand.tmp 36, Operand.tmp 42], argTypes := #[42, 42] }, type := 42, pos := "ref.go:105", after := #[{ on := 7, ground := Ground.data }, { on := 13, ground := Ground.data }, { on := 7, ground := Ground.chain }], guard := none }) rfl (fun K hK => ?_) AllReadyH.nil)
          rw [if_pos (by rfl)]
          refine wp_append_byt _ (.tmp 36) (.tmp 42) _ rfl Tryz.underlying42 info_u8 wr.heap.size (.slice A6 nk c6) nk key (by rfl) M7.out U2.heap.size (some ⟨wr.heap.size, 0, none⟩) 1 1 [b] (by rfl) LBy.out (by omega) B2.out.size ?_
          intro v4 U4 m4 g4 o4
          obtain ⟨A8, c8, rfl⟩ := m4.slice
          have Y4 := Lib.hid m4.byt
          have B4 := Lib.hid (B2.out.trans (M7.out.grown B2.out.size (Below.refl _ _) g4))
          clear m4 g4 o4
          refine hK.out _ _ (S3.out _ B4.out) (fun hHeld' => ?_)
          clear hK K hHeld
          have hHeld := hHeld'
          clear hHeld'
          try simp only [Act.put, List.setIfInBounds_toArray, List.set_cons_zero, List.set_cons_succ]
          refine wpAnyH_ready (rs := [15]) (by kernel_rfl) (by simp) (AllReadyH.cons (o := { dst := some 44, op := Op.call { callee := Callee.value (Operand.func 62), args := #[Operand.tmp 34, Operand.tmp 43], argTypes := #[45, 42] }, type := 22, pos := "ref.go:105", after := #[{ on := 5, ground := Ground.data }, { on := 14, ground := Ground.data }, { on := 14, ground := Ground.chain }], guard := none }) rfl (fun K hK => ?_) AllReadyH.nil)
          go_simp
          (with_reducible refine (HC.out U4 (BR3.out _ B4.out) A8 (nk + 1) c8 Y4.out).mono ?_)
          rintro e U5 ⟨A9, c9, qs, bq, rfl, hqc, hbq, lr5, hqs, b5⟩
          have B5 := Lib.hid (B4.out.trans (b5.mono B4.out.size))
          have LR5 := Lib.hid lr5
          have HQS := Lib.hid hqs
          have hql : qs.length ≤ 1001 := by have h2 := congrArg List.length HQS.out; rw [List.length_map] at h2; have := HQL.out; omega
          have hB4 := B4.out.size
          clear lr5 hqs b5
          go_wp2_with fail
          refine hK.out _ _ (S3.out _ B5.out) (fun hHeld' => ?_)
          clear hK K hHeld
          have hHeld := hHeld'
          clear hHeld'
          try simp only [Act.put, List.setIfInBounds_toArray, List.set_cons_zero, List.set_cons_succ]
          refine wpAnyH_ready (rs := [16]) (by kernel_rfl) (by simp) (AllReadyH.cons (o := { dst := some 45, op := Op.call { callee := Callee.builtin Builtin.append, args := #[Operand.tmp 29, Operand.tmp 44], argTypes := #[22, 22] }, type := 22, pos := "ref.go:105", after := #[{ on := 0, ground := Ground.data }, { on := 15, ground := Ground.data }, { on := 15, ground := Ground.chain }], guard := none }) rfl (fun K hK => ?_) AllReadyH.nil)
          rw [if_pos (by rfl)]
          refine wp_append_many _ (.tmp 29) (.tmp 44) _ rfl Tryz.underlying22 info_kpair (by rfl) (by decide) W.heap.size (.slice Ao ps.length co) ps.length (ps.map pvc) (by rfl) (LRV.out U5 B5.out).row U5.heap.size A9 qs.length c9 (qs.map pvc) (by rfl) LR5.out.row.rws (pvc_one qs) (by omega) (by unfold maxLen; omega) (by have := B5.out.size; omega) ?_
          intro v6 U6 m6 g6 o6
          obtain ⟨Az, cz, rfl, _⟩ := m6.slice
          obtain ⟨x1, x2⟩ := LR.more HL1.out hWr B5.out (qs := qs) (fun p hp => ⟨(LR5.out.key p (.inl hp)).1, (LR5.out.key p (.inl hp)).2.1, fun i hi => ⟨by have := ((LR5.out.key p (.inl hp)).2.2 i hi).1; omega, fun e => by have h3 := ((LR5.out.key p (.inl hp)).2.2 i hi).1; have h4 := (HL1.out.row.lt i e).2; omega⟩⟩) m6 g6 o6
          have LR6 := Lib.hid x1
          have B6 := Lib.hid (HBr.out.trans x2)
          clear m6 g6 o6 x1 x2
          refine hK.out _ _ (SS.out _ B6.out) (fun hHeld' => ?_)
          clear hK K hHeld
          have hHeld := hHeld'
          clear hHeld'
          try simp only [Act.put, List.setIfInBounds_toArray, List.set_cons_zero, List.set_cons_succ]
          refine wpAnyH_take (i := 17) (oi := { dst := some 5, op := Op.assign (Operand.tmp 45), type := 22, pos := "ref.go:105", after := #[{ on := 16, ground := Ground.data }, { on := 16, ground := Ground.chain }, { on := 0, ground := Ground.phase }, { on := 1, ground := Ground.phase }, { on := 2, ground := Ground.phase }, { on := 3, ground := Ground.phase }, { on := 4, ground := Ground.phase }, { on := 5, ground := Ground.phase }, { on := 6, ground := Ground.phase }, { on := 7, ground := Ground.phase }, { on := 8, ground := Ground.phase }, { on := 9, ground := Ground.phase }, { on := 10, ground := Ground.phase }, { on := 11, ground := Ground.phase }, { on := 12, ground := Ground.phase }, { on := 13, ground := Ground.phase }, { on := 14, ground := Ground.phase }, { on := 15, ground := Ground.phase }, { on := 16, ground := Ground.phase }], guard := none }) (v := ?v24) rfl (by kernel_rfl) (by kernel_rfl) (by kernel_rfl) (fun _ _ _ h => h) (Or.inl ⟨by rfl, ?hy24⟩) hHeld ?rest24
          case hy24 => (intro w' hSw; (try dsimp only at hSw); go_simp; (try with_reducible rfl))
          try simp only [Act.put, List.setIfInBounds_toArray, List.set_cons_zero, List.set_cons_succ]
          refine wpAnyH_done (by kernel_rfl) ?_ _
          have HP6 := Lib.hid (HP2.out qs HQS.out)
          go_wp2
          exact ⟨⟨j + 1, ps ++ qs, r', by omega, by go_num, LR6, HP6, HF2, B6⟩, by simp [intOf]; omega⟩
      · obtain rfl : j = d.nk := by omega
        obtain ⟨_, _, hdis⟩ := HF.out
        obtain rfl := hdis.done (by rw [HL.out]; exact Nat.le_refl _)
        have HE := Lib.hid (show ps.map kvP = tlist x k way by rw [← HP.out.1]; simp [Fo.list])
        have LRE := Lib.hid (show LR W.heap.size wr (.slice Ao ps.length co) ps [] from ⟨HL1.out.row, fun p hp => HL1.out.key p (.inl (by rcases hp with q | q; exact q; cases q))⟩)
        have BE := Lib.hid (BW.out.trans (HBr.out.mono BW.out.size))
        clear hdis HF
        go_wp2
        go_ret
        exact ⟨Ao, co, ps, W.heap.size, rfl, hoc, SW.out, LRE.out, HE.out, BE.out⟩
  | false =>
    have LRS := Lib.hid LR0.out
    have HPL := Lib.hid (show ([] : List PV).map kvP ++ k.list key = tlist x k way from HTL.out.symm)
    have BS := Lib.hid B2.out
    clear LR0 HTL
    have BSK := Lib.hid BS.out.size
    go_wp2_with fail
    go_loopw [5, 7] (fun ov iv wr => ∃ (j : Nat) (ps : List PV) (r : Fo), j ≤ d.nk ∧ iv = .int .i64 j ∧ Hid (LR W.heap.size wr ov ps [⟨A2, nk, c2, key, 0⟩]) ∧ Hid (ps.map kvP ++ r.list key = tlist x k way ∧ r.tn ≤ 1000 ∧ ∀ v ∈ r.vis key (dd + 1), v.way.length ≤ 1000000) ∧ Hid ((r.All fun _ x k => RLOk x k) ∧ k.bytes.drop j = r.bytes ∧ r.Dis w B (ek.drop j)) ∧ Hid (Below W.heap.size W wr)) (fun _ iv _ => d.nk - (intOf iv).toNat)
    case atStart => exact ⟨0, _, k, Nat.zero_le _, rfl, LRS, Lib.hid ⟨HPL.out, HTN.out, HVS.out⟩, Lib.hid ⟨HKA.out, rfl, HKD.out⟩, BS⟩
    case round =>
      obtain ⟨j, ps, r, hj, rfl, HL1, HP, HF, HBr⟩ := hrel
      have c5 := KC5.out wr HBr.out
      obtain ⟨Ao, co, e, hoc⟩ := HL1.out.row.slice
      subst e
      have hps : ps.length ≤ 1001 := by
        have h2 := congrArg List.length HP.out.1
        rw [List.length_append, List.length_map] at h2
        have := HTLL.out
        omega
      by_cases h1 : j < d.nk
      · obtain ⟨hall, hrb, hdis⟩ := HF.out
        obtain ⟨b, x', k', r', d', e2, rfl, hej, hat, hk2, hr2⟩ := hdis.at_ (by have := HL.out; omega)
        obtain ⟨ad, hA, hlt, _⟩ := kid_cells (HR.out wr HBr.out) h1 hej
        obtain ⟨adb, b', hAb, _, hb1, _⟩ := (HBY.out wr HBr.out).at_ (show j < d.nb by rw [HBL.out]; exact h1)
        obtain ⟨q1, q2⟩ := drop_cons (show k.bytes.drop j = b :: r'.bytes from hrb)
        rw [q1] at hb1
        injection hb1 with hb1
        subst hb1
        obtain ⟨p1, p2, p3⟩ := HP.out
        have htn2 : (Fo.cons b x' k' r').tn = 1 + k'.tn + r'.tn := rfl
        rw [htn2] at p2
        rw [Fo.list_cons] at p1
        rw [Fo.vis_cons] at p3
        have HC := Lib.hid (fun V (hb : Below W.heap.size W V) (A : Option Addr) (n c : Nat) (hy : Byt V V.heap.size A n (key ++ [b])) => hall.1 B V (d'.cells x' k') A n c (key ++ [b]) (dd + 1) ⟨d', e2, rfl, hat.below (HD.out V hb), hk2.below (HD.out V hb)⟩ hy (Nat.le_trans HB.out (Nat.le_trans SW.out hb.size)) (by omega) (fun v hv => p3 v (List.mem_append_left _ hv)))
        have hck : (d'.cells x' k').toArray = dArr (kdV x' k') d' x'.has x'.val := rfl
        rw [hck] at HC
        have SS := Lib.hid (fun V (hb : Below W.heap.size W V) => show V.cell? ⟨w.heap.size, 4, none⟩ = some (.slice (some adb) d.nk d.cb) ∧ V.cell? ⟨w.heap.size, 5, none⟩ = some (.slice (some ad) d.nk d.ck) ∧ V.cell? (adb.add j) = some (.int .u8 (b.toNat : Int)) ∧ dCells V (ad.add (j * 6)) (kdV x' k') d' x'.has x'.val from by
          obtain ⟨ad0, hA0, _, f0, f1, f2, f3, f4, f5⟩ := kid_cells (HR.out V hb) h1 hej
          rw [hA] at hA0
          injection hA0 with hA0
          subst hA0
          obtain ⟨adb0, b0, hAb0, _, hb0, hb2⟩ := (HBY.out V hb).at_ (show j < d.nb by rw [HBL.out]; exact h1)
          rw [hAb] at hAb0
          injection hAb0 with hAb0
          subst hAb0
          rw [q1] at hb0
          injection hb0 with hb0
          subst hb0
          have g4 := KC4.out V hb
          have g5 := KC5.out V hb
          rw [hAb, HBL.out] at g4
          rw [hA] at g5
          exact ⟨g4, g5, hb2, f0, f1, f2, f3, f4, f5⟩)
        have HQL := Lib.hid (show (tlist x' k' (key ++ [b])).length ≤ 1001 from by
          have h2 := list_len k' ((key ++ [b]) ++ x'.part)
          unfold tlist
          rw [List.length_append]
          split
          · rw [List.length_singleton]; omega
          · rw [List.length_nil]; omega)
        have HP2 := Lib.hid (fun (qs : List PV) (h : qs.map kvP = tlist x' k' (key ++ [b])) => show (ps ++ qs).map kvP ++ r'.list key = tlist x k way ∧ r'.tn ≤ 1000 ∧ ∀ v ∈ r'.vis key (dd + 1), v.way.length ≤ 1000000 from ⟨by rw [← p1, List.map_append, h, List.append_assoc], by omega, fun v hv => p3 v (List.mem_append_right _ hv)⟩)
        have HF2 := Lib.hid (show (r'.All fun _ x k => RLOk x k) ∧ k.bytes.drop (j + 1) = r'.bytes ∧ r'.Dis w B (ek.drop (j + 1)) from ⟨hall.2, q2, hr2⟩)
        have S3 := Lib.hid (fun V (h : Below wr.heap.size wr V) => SS.out V (HBr.out.trans (h.mono HBr.out.size)))
        have BR3 := Lib.hid (fun V (h : Below wr.heap.size wr V) => show Below W.heap.size W V from HBr.out.trans (h.mono HBr.out.size))
        have LRV := Lib.hid (fun V (hb : Below wr.heap.size wr V) => HL1.out.below hb)
        have KYV := Lib.hid (fun V (h : Below wr.heap.size wr V) => show Byt V V.heap.size A2 nk key from ((HL1.out.key ⟨A2, nk, c2, key, 0⟩ (.inr (List.mem_singleton.2 rfl))).1.below h).more h.size)
        generalize kdV x' k' = kd' at SS S3 HC
        have ij : (j : Int) < (d.nk : Int) := by omega
        have hWr : W.heap.size ≤ wr.heap.size := HBr.out.size
        obtain ⟨bz, hbz⟩ : ∃ z : Int, (b.toNat : Int) = z := ⟨_, rfl⟩
        have HBZ := Lib.hid hbz
        rw [hbz] at SS S3
        rw [hA] at c5
        clear hA hAb hall hrb hdis hej hat hk2 hr2 hck HF q1 q2 hlt p1 p2 p3 htn2 HP hbz
        go_wp2_with fail
        refine wp_region_held_drew (S := (fun V => V.cell? ⟨w.heap.size, 4, none⟩ = some (.slice (some adb) d.nk d.cb) ∧ V.cell? ⟨w.heap.size, 5, none⟩ = some (.slice (some ad) d.nk d.ck) ∧ V.cell? (adb.add j) = some (.int .u8 bz) ∧ dCells V (ad.add (j * 6)) kd' d' x'.has x'.val)) (by kernel_rfl) (S3.out _ (Below.refl wr.heap.size wr).drew) (fun hHeld => ?_)
        refine wpAnyH_take (i := 0) (oi := { dst := some 29, op := Op.move (Operand.tmp 5), type := 22, pos := "ref.go:105", after := #[], guard := none }) (v := ?v25) rfl (by kernel_rfl) (by kernel_rfl) (by kernel_rfl) (fun _ _ _ h => h) (Or.inl ⟨by rfl, ?hy25⟩) hHeld ?rest25
        case hy25 => (intro w' hSw; (try dsimp only at hSw); go_simp; (try with_reducible rfl))
        try simp only [Act.put, List.setIfInBounds_toArray, List.set_cons_zero, List.set_cons_succ]
        refine wpAnyH_take (i := 1) (oi := { dst := some 30, op := Op.fieldAddr 45 (Operand.tmp 2) 5, type := 0, pos := "ref.go:105", after := #[], guard := none }) (v := ?v26) rfl (by kernel_rfl) (by kernel_rfl) (by kernel_rfl) (fun _ _ _ h => h) (Or.inl ⟨by rfl, ?hy26⟩) hHeld ?rest26
        case hy26 => (intro w' hSw; (try dsimp only at hSw); go_simp; (try with_reducible rfl))
        try simp only [Act.put, List.setIfInBounds_toArray, List.set_cons_zero, List.set_cons_succ]
        refine wpAnyH_take (i := 2) (oi := { dst := some 31, op := Op.load 43 (Operand.tmp 30), type := 43, pos := "ref.go:105", after := #[{ on := 1, ground := Ground.data }], guard := none }) (v := ?v27) rfl (by kernel_rfl) (by kernel_rfl) (by kernel_rfl) (fun _ _ _ h => h) (Or.inl ⟨by rfl, ?hy27⟩) hHeld ?rest27
        case hy27 => (intro w' hSw; (try dsimp only at hSw); go_simp; (try with_reducible rfl))
        try simp only [Act.put, List.setIfInBounds_toArray, List.set_cons_zero, List.set_cons_succ]
        refine wpAnyH_take (i := 3) (oi := { dst := some 32, op := Op.move (Operand.tmp 7), type := 3, pos := "ref.go:105", after := #[], guard := none }) (v := ?v28) rfl (by kernel_rfl) (by kernel_rfl) (by kernel_rfl) (fun _ _ _ h => h) (Or.inl ⟨by rfl, ?hy28⟩) hHeld ?rest28
        case hy28 => (intro w' hSw; (try dsimp only at hSw); go_simp; (try with_reducible rfl))
        try simp only [Act.put, List.setIfInBounds_toArray, List.set_cons_zero, List.set_cons_succ]
        refine wpAnyH_take (i := 4) (oi := { dst := some 33, op := Op.indexAddr 43 (Operand.tmp 31) (Operand.tmp 32), type := 0, pos := "ref.go:105", after := #[{ on := 2, ground := Ground.data }, { on := 3, ground := Ground.data }], guard := none }) (v := ?v29) rfl (by kernel_rfl) (by kernel_rfl) (by kernel_rfl) (fun _ _ _ h => h) (Or.inl ⟨by rfl, ?hy29⟩) hHeld ?rest29
        case hy29 => (intro w' hSw; (try dsimp only at hSw); go_simp; (try with_reducible rfl))
        try simp only [Act.put, List.setIfInBounds_toArray, List.set_cons_zero, List.set_cons_succ]
        refine wpAnyH_take (i := 5) (oi := { dst := some 34, op := Op.load 45 (Operand.tmp 33), type := 45, pos := "ref.go:105", after := #[{ on := 4, ground := Ground.data }], guard := none }) (v := ?v30) rfl (by kernel_rfl) (by kernel_rfl) (by kernel_rfl) (fun _ _ _ h => h) (Or.inl ⟨by rfl, ?hy30⟩) hHeld ?rest30
        case hy30 => (intro w' hSw; (try dsimp only at hSw); go_simp; (try with_reducible rfl))
        try simp only [Act.put, List.setIfInBounds_toArray, List.set_cons_zero, List.set_cons_succ]
        refine wpAnyH_take (i := 6) (oi := { dst := some 35, op := Op.move (Operand.tmp 6), type := 42, pos := "ref.go:105", after := #[], guard := none }) (v := ?v31) rfl (by kernel_rfl) (by kernel_rfl) (by kernel_rfl) (fun _ _ _ h => h) (Or.inl ⟨by rfl, ?hy31⟩) hHeld ?rest31
        case hy31 => (intro w' hSw; (try dsimp only at hSw); go_simp; (try with_reducible rfl))
        try simp only [Act.put, List.setIfInBounds_toArray, List.set_cons_zero, List.set_cons_succ]
        refine wpAnyH_take (i := 8) (oi := { dst := some 37, op := Op.fieldAddr 45 (Operand.tmp 2) 4, type := 0, pos := "ref.go:105", after := #[], guard := none }) (v := ?v32) rfl (by kernel_rfl) (by kernel_rfl) (by kernel_rfl) (fun _ _ _ h => h) (Or.inl ⟨by rfl, ?hy32⟩) hHeld ?rest32
        case hy32 => (intro w' hSw; (try dsimp only at hSw); go_simp; (try with_reducible rfl))
        try simp only [Act.put, List.setIfInBounds_toArray, List.set_cons_zero, List.set_cons_succ]
        refine wpAnyH_take (i := 9) (oi := { dst := some 38, op := Op.load 42 (Operand.tmp 37), type := 42, pos := "ref.go:105", after := #[{ on := 8, ground := Ground.data }], guard := none }) (v := ?v33) rfl (by kernel_rfl) (by kernel_rfl) (by kernel_rfl) (fun _ _ _ h => h) (Or.inl ⟨by rfl, ?hy33⟩) hHeld ?rest33
        case hy33 => (intro w' hSw; (try dsimp only at hSw); go_simp; (try with_reducible rfl))
        try simp only [Act.put, List.setIfInBounds_toArray, List.set_cons_zero, List.set_cons_succ]
        refine wpAnyH_take (i := 10) (oi := { dst := some 39, op := Op.move (Operand.tmp 7), type := 3, pos := "ref.go:105", after := #[], guard := none }) (v := ?v34) rfl (by kernel_rfl) (by kernel_rfl) (by kernel_rfl) (fun _ _ _ h => h) (Or.inl ⟨by rfl, ?hy34⟩) hHeld ?rest34
        case hy34 => (intro w' hSw; (try dsimp only at hSw); go_simp; (try with_reducible rfl))
        try simp only [Act.put, List.setIfInBounds_toArray, List.set_cons_zero, List.set_cons_succ]
        refine wpAnyH_take (i := 11) (oi := { dst := some 40, op := Op.indexAddr 42 (Operand.tmp 38) (Operand.tmp 39), type := 0, pos := "ref.go:105", after := #[{ on := 9, ground := Ground.data }, { on := 10, ground := Ground.data }], guard := none }) (v := ?v35) rfl (by kernel_rfl) (by kernel_rfl) (by kernel_rfl) (fun _ _ _ h => h) (Or.inl ⟨by rfl, ?hy35⟩) hHeld ?rest35
        case hy35 => (intro w' hSw; (try dsimp only at hSw); go_simp; (try with_reducible rfl))
        try simp only [Act.put, List.setIfInBounds_toArray, List.set_cons_zero, List.set_cons_succ]
        refine wpAnyH_take (i := 12) (oi := { dst := some 41, op := Op.load 5 (Operand.tmp 40), type := 5, pos := "ref.go:105", after := #[{ on := 11, ground := Ground.data }], guard := none }) (v := ?v36) rfl (by kernel_rfl) (by kernel_rfl) (by kernel_rfl) (fun _ _ _ h => h) (Or.inl ⟨by rfl, ?hy36⟩) hHeld ?rest36
        case hy36 => (intro w' hSw; (try dsimp only at hSw); go_simp; (try with_reducible rfl))
        try simp only [Act.put, List.setIfInBounds_toArray, List.set_cons_zero, List.set_cons_succ]
        refine wpAnyH_ready (rs := [7, 13]) (by kernel_rfl) (by simp) (AllReadyH.cons (o := { dst := some 36, op := Op.call { callee := Callee.builtin Builtin.append, args := #[Operand.const (Value.slice none 0 0), Operand.tmp 35], argTypes := #[42, 42] }, type := 42, pos := "ref.go:105", after := #[{ on := 6, ground := Ground.data }], guard := none }) rfl (fun K hK => ?_) (AllReadyH.cons (o := { dst := some 42, op := Op.buildSlice 42 1 #[(0, Operand.tmp 41)], type := 42, pos := "ref.go:105", after := #[{ on := 12, ground := Ground.data }], guard := none }) rfl (fun K hK => ?_) AllReadyH.nil))
        · rw [if_pos (by rfl)]
          refine wp_append_byt _ (.const (.slice none 0 0)) (.tmp 35) _ rfl Tryz.underlying42 info_u8 wr.heap.size (.slice none 0 0) 0 [] (by rfl) (Mine.nil _ _ _) (wr.drew).heap.size A2 nk c2 key (by rfl) (KYV.out _ (Below.refl wr.heap.size wr).drew) (by omega) (Nat.le_refl _) ?_
          intro v1 U1 m1 g1 o1
          obtain ⟨A6, c6, rfl⟩ := m1.slice
          rw [Nat.zero_add, List.nil_append] at m1
          have M1 := Lib.hid m1
          have B1 := Lib.hid (below_none (W := wr) (Below.refl wr.heap.size wr).drew g1)
          rw [Nat.zero_add]
          clear m1 g1 o1
          refine hK.out _ _ (S3.out _ B1.out) (fun hHeld' => ?_)
          clear hK K hHeld
          have hHeld := hHeld'
          clear hHeld'
          try simp only [Act.put, List.setIfInBounds_toArray, List.set_cons_zero, List.set_cons_succ]
          refine wpAnyH_ready (rs := [13]) (by kernel_rfl) (by simp) (AllReadyH.cons (o := { dst := some 42, op := Op.buildSlice 42 1 #[(0, Operand.tmp 41)], type := 42, pos := "ref.go:105", after := #[{ on := 12, ground := Ground.data }], guard := none }) rfl (fun K hK => ?_) AllReadyH.nil)
          go_simp
          obtain ⟨U2, hU2⟩ : ∃ V, U1.alloc (.cells #[.int .u8 bz] 5) = V := ⟨_, rfl⟩
          have B2 := Lib.hid (show Below wr.heap.size wr U2 by rw [← hU2]; exact B1.out.alloc B1.out.size _)
          have LBy := Lib.hid (show Byt U2 U2.heap.size (some ⟨U1.heap.size, 0, none⟩) 1 [b] by rw [← hU2]; exact (byt_one U1 5 (u := b) HBZ.out.symm).more (by simp))
          have M7 := Lib.hid (show Mine U2 wr.heap.size 5 (.slice A6 nk c6) nk key by rw [← hU2]; exact M1.out.alloc _)
          rw [hU2]
          clear hU2
          refine hK.out _ _ (S3.out _ B2.out) (fun hHeld' => ?_)
          clear hK K hHeld
          have hHeld := hHeld'
          clear hHeld'
          try simp only [Act.put, List.setIfInBounds_toArray, List.set_cons_zero, List.set_cons_succ]
          refine wpAnyH_ready (rs := [14]) (by kernel_rfl) (by simp) (AllReadyH.cons (o := { dst := some 43, op := Op.call { callee := Callee.builtin Builtin.append, args := #[Operand.tmp 36, Operand.tmp 42], argTypes := #[42, 42] }, type := 42, pos := "ref.go:105", after := #[{ on := 7, ground := Ground.data }, { on := 13, ground := Ground.data }, { on := 7, ground := Ground.chain }], guard := none }) rfl (fun K hK => ?_) AllReadyH.nil)
          rw [if_pos (by rfl)]
          refine wp_append_byt _ (.tmp 36) (.tmp 42) _ rfl Tryz.underlying42 info_u8 wr.heap.size (.slice A6 nk c6) nk key (by rfl) M7.out U2.heap.size (some ⟨U1.heap.size, 0, none⟩) 1 1 [b] (by rfl) LBy.out (by omega) B2.out.size ?_
          intro v4 U4 m4 g4 o4
          obtain ⟨A8, c8, rfl⟩ := m4.slice
          have Y4 := Lib.hid m4.byt
          have B4 := Lib.hid (B2.out.trans (M7.out.grown B2.out.size (Below.refl _ _) g4))
          clear m4 g4 o4
          refine hK.out _ _ (S3.out _ B4.out) (fun hHeld' => ?_)
          clear hK K hHeld
          have hHeld := hHeld'
          clear hHeld'
          try simp only [Act.put, List.setIfInBounds_toArray, List.set_cons_zero, List.set_cons_succ]
          refine wpAnyH_ready (rs := [15]) (by kernel_rfl) (by simp) (AllReadyH.cons (o := { dst := some 44, op := Op.call { callee := Callee.value (Operand.func 62), args := #[Operand.tmp 34, Operand.tmp 43], argTypes := #[45, 42] }, type := 22, pos := "ref.go:105", after := #[{ on := 5, ground := Ground.data }, { on := 14, ground := Ground.data }, { on := 14, ground := Ground.chain }], guard := none }) rfl (fun K hK => ?_) AllReadyH.nil)
          go_simp
          (with_reducible refine (HC.out U4 (BR3.out _ B4.out) A8 (nk + 1) c8 Y4.out).mono ?_)
          rintro e U5 ⟨A9, c9, qs, bq, rfl, hqc, hbq, lr5, hqs, b5⟩
          have B5 := Lib.hid (B4.out.trans (b5.mono B4.out.size))
          have LR5 := Lib.hid lr5
          have HQS := Lib.hid hqs
          have hql : qs.length ≤ 1001 := by have h2 := congrArg List.length HQS.out; rw [List.length_map] at h2; have := HQL.out; omega
          have hB4 := B4.out.size
          clear lr5 hqs b5
          go_wp2_with fail
          refine hK.out _ _ (S3.out _ B5.out) (fun hHeld' => ?_)
          clear hK K hHeld
          have hHeld := hHeld'
          clear hHeld'
          try simp only [Act.put, List.setIfInBounds_toArray, List.set_cons_zero, List.set_cons_succ]
          refine wpAnyH_ready (rs := [16]) (by kernel_rfl) (by simp) (AllReadyH.cons (o := { dst := some 45, op := Op.call { callee := Callee.builtin Builtin.append, args := #[Operand.tmp 29, Operand.tmp 44], argTypes := #[22, 22] }, type := 22, pos := "ref.go:105", after := #[{ on := 0, ground := Ground.data }, { on := 15, ground := Ground.data }, { on := 15, ground := Ground.chain }], guard := none }) rfl (fun K hK => ?_) AllReadyH.nil)
          rw [if_pos (by rfl)]
          refine wp_append_many _ (.tmp 29) (.tmp 44) _ rfl Tryz.underlying22 info_kpair (by rfl) (by decide) W.heap.size (.slice Ao ps.length co) ps.length (ps.map pvc) (by rfl) (LRV.out U5 B5.out).row U5.heap.size A9 qs.length c9 (qs.map pvc) (by rfl) LR5.out.row.rws (pvc_one qs) (by omega) (by unfold maxLen; omega) (by have := B5.out.size; omega) ?_
          intro v6 U6 m6 g6 o6
          obtain ⟨Az, cz, rfl, _⟩ := m6.slice
          obtain ⟨x1, x2⟩ := LR.more HL1.out hWr B5.out (qs := qs) (fun p hp => ⟨(LR5.out.key p (.inl hp)).1, (LR5.out.key p (.inl hp)).2.1, fun i hi => ⟨by have := ((LR5.out.key p (.inl hp)).2.2 i hi).1; omega, fun e => by have h3 := ((LR5.out.key p (.inl hp)).2.2 i hi).1; have h4 := (HL1.out.row.lt i e).2; omega⟩⟩) m6 g6 o6
          have LR6 := Lib.hid x1
          have B6 := Lib.hid (HBr.out.trans x2)
          clear m6 g6 o6 x1 x2
          refine hK.out _ _ (SS.out _ B6.out) (fun hHeld' => ?_)
          clear hK K hHeld
          have hHeld := hHeld'
          clear hHeld'
          try simp only [Act.put, List.setIfInBounds_toArray, List.set_cons_zero, List.set_cons_succ]
          refine wpAnyH_take (i := 17) (oi := { dst := some 5, op := Op.assign (Operand.tmp 45), type := 22, pos := "ref.go:105", after := #[{ on := 16, ground := Ground.data }, { on := 16, ground := Ground.chain }, { on := 0, ground := Ground.phase }, { on := 1, ground := Ground.phase }, { on := 2, ground := Ground.phase }, { on := 3, ground := Ground.phase }, { on := 4, ground := Ground.phase }, { on := 5, ground := Ground.phase }, { on := 6, ground := Ground.phase }, { on := 7, ground := Ground.phase }, { on := 8, ground := Ground.phase }, { on := 9, ground := Ground.phase }, { on := 10, ground := Ground.phase }, { on := 11, ground := Ground.phase }, { on := 12, ground := Ground.phase }, { on := 13, ground := Ground.phase }, { on := 14, ground := Ground.phase }, { on := 15, ground := Ground.phase }, { on := 16, ground := Ground.phase }], guard := none }) (v := ?v37) rfl (by kernel_rfl) (by kernel_rfl) (by kernel_rfl) (fun _ _ _ h => h) (Or.inl ⟨by rfl, ?hy37⟩) hHeld ?rest37
          case hy37 => (intro w' hSw; (try dsimp only at hSw); go_simp; (try with_reducible rfl))
          try simp only [Act.put, List.setIfInBounds_toArray, List.set_cons_zero, List.set_cons_succ]
          refine wpAnyH_done (by kernel_rfl) ?_ _
          have HP6 := Lib.hid (HP2.out qs HQS.out)
          go_wp2
          exact ⟨⟨j + 1, ps ++ qs, r', by omega, by go_num, LR6, HP6, HF2, B6⟩, by simp [intOf]; omega⟩
        · go_simp
          obtain ⟨U1, hU1⟩ : ∃ V, (wr.alloc (.cells #[.int .u8 bz] 5)).drew = V := ⟨_, rfl⟩
          have B1 := Lib.hid (show Below wr.heap.size wr U1 by rw [← hU1]; exact ((Below.refl _ _).alloc (Nat.le_refl _) _).drew)
          have LB1 := Lib.hid (show Byt U1 U1.heap.size (some ⟨wr.heap.size, 0, none⟩) 1 [b] by rw [← hU1]; exact (byt_one wr 5 (u := b) HBZ.out.symm).more (by simp))
          rw [hU1]
          clear hU1
          refine hK.out _ _ (S3.out _ B1.out) (fun hHeld' => ?_)
          clear hK K hHeld
          have hHeld := hHeld'
          clear hHeld'
          try simp only [Act.put, List.setIfInBounds_toArray, List.set_cons_zero, List.set_cons_succ]
          refine wpAnyH_ready (rs := [7]) (by kernel_rfl) (by simp) (AllReadyH.cons (o := { dst := some 36, op := Op.call { callee := Callee.builtin Builtin.append, args := #[Operand.const (Value.slice none 0 0), Operand.tmp 35], argTypes := #[42, 42] }, type := 42, pos := "ref.go:105", after := #[{ on := 6, ground := Ground.data }], guard := none }) rfl (fun K hK => ?_) AllReadyH.nil)
          rw [if_pos (by rfl)]
          refine wp_append_byt _ (.const (.slice none 0 0)) (.tmp 35) _ rfl Tryz.underlying42 info_u8 wr.heap.size (.slice none 0 0) 0 [] (by rfl) (Mine.nil _ _ _) (U1).heap.size A2 nk c2 key (by rfl) (KYV.out _ B1.out) (by omega) B1.out.size ?_
          intro v1 U2 m1 g1 o1
          obtain ⟨A6, c6, rfl⟩ := m1.slice
          rw [Nat.zero_add, List.nil_append] at m1
          have M1 := Lib.hid m1
          have B2 := Lib.hid (below_none (W := wr) B1.out g1)
          have LBy := Lib.hid ((LB1.out.below (below_none (W := U1) (Below.refl _ _) g1)).more (below_none (W := U1) (Below.refl _ _) g1).size)
          have M7 := Lib.hid m1
          rw [Nat.zero_add]
          clear m1 g1 o1
          refine hK.out _ _ (S3.out _ B2.out) (fun hHeld' => ?_)
          clear hK K hHeld
          have hHeld := hHeld'
          clear hHeld'
          try simp only [Act.put, List.setIfInBounds_toArray, List.set_cons_zero, List.set_cons_succ]
          refine wpAnyH_ready (rs := [14]) (by kernel_rfl) (by simp) (AllReadyH.cons (o := { dst := some 43, op := Op.call { callee := Callee.builtin Builtin.append, args := #[Operand.tmp 36, Operand.tmp 42], argTypes := #[42, 42] }, type := 42, pos := "ref.go:105", after := #[{ on := 7, ground := Ground.data }, { on := 13, ground := Ground.data }, { on := 7, ground := Ground.chain }], guard := none }) rfl (fun K hK => ?_) AllReadyH.nil)
          rw [if_pos (by rfl)]
          refine wp_append_byt _ (.tmp 36) (.tmp 42) _ rfl Tryz.underlying42 info_u8 wr.heap.size (.slice A6 nk c6) nk key (by rfl) M7.out U2.heap.size (some ⟨wr.heap.size, 0, none⟩) 1 1 [b] (by rfl) LBy.out (by omega) B2.out.size ?_
          intro v4 U4 m4 g4 o4
          obtain ⟨A8, c8, rfl⟩ := m4.slice
          have Y4 := Lib.hid m4.byt
          have B4 := Lib.hid (B2.out.trans (M7.out.grown B2.out.size (Below.refl _ _) g4))
          clear m4 g4 o4
          refine hK.out _ _ (S3.out _ B4.out) (fun hHeld' => ?_)
          clear hK K hHeld
          have hHeld := hHeld'
          clear hHeld'
          try simp only [Act.put, List.setIfInBounds_toArray, List.set_cons_zero, List.set_cons_succ]
          refine wpAnyH_ready (rs := [15]) (by kernel_rfl) (by simp) (AllReadyH.cons (o := { dst := some 44, op := Op.call { callee := Callee.value (Operand.func 62), args := #[Operand.tmp 34, Operand.tmp 43], argTypes := #[45, 42] }, type := 22, pos := "ref.go:105", after := #[{ on := 5, ground := Ground.data }, { on := 14, ground := Ground.data }, { on := 14, ground := Ground.chain }], guard := none }) rfl (fun K hK => ?_) AllReadyH.nil)
          go_simp
          (with_reducible refine (HC.out U4 (BR3.out _ B4.out) A8 (nk + 1) c8 Y4.out).mono ?_)
          rintro e U5 ⟨A9, c9, qs, bq, rfl, hqc, hbq, lr5, hqs, b5⟩
          have B5 := Lib.hid (B4.out.trans (b5.mono B4.out.size))
          have LR5 := Lib.hid lr5
          have HQS := Lib.hid hqs
          have hql : qs.length ≤ 1001 := by have h2 := congrArg List.length HQS.out; rw [List.length_map] at h2; have := HQL.out; omega
          have hB4 := B4.out.size
          clear lr5 hqs b5
          go_wp2_with fail
          refine hK.out _ _ (S3.out _ B5.out) (fun hHeld' => ?_)
          clear hK K hHeld
          have hHeld := hHeld'
          clear hHeld'
          try simp only [Act.put, List.setIfInBounds_toArray, List.set_cons_zero, List.set_cons_succ]
          refine wpAnyH_ready (rs := [16]) (by kernel_rfl) (by simp) (AllReadyH.cons (o := { dst := some 45, op := Op.call { callee := Callee.builtin Builtin.append, args := #[Operand.tmp 29, Operand.tmp 44], argTypes := #[22, 22] }, type := 22, pos := "ref.go:105", after := #[{ on := 0, ground := Ground.data }, { on := 15, ground := Ground.data }, { on := 15, ground := Ground.chain }], guard := none }) rfl (fun K hK => ?_) AllReadyH.nil)
          rw [if_pos (by rfl)]
          refine wp_append_many _ (.tmp 29) (.tmp 44) _ rfl Tryz.underlying22 info_kpair (by rfl) (by decide) W.heap.size (.slice Ao ps.length co) ps.length (ps.map pvc) (by rfl) (LRV.out U5 B5.out).row U5.heap.size A9 qs.length c9 (qs.map pvc) (by rfl) LR5.out.row.rws (pvc_one qs) (by omega) (by unfold maxLen; omega) (by have := B5.out.size; omega) ?_
          intro v6 U6 m6 g6 o6
          obtain ⟨Az, cz, rfl, _⟩ := m6.slice
          obtain ⟨x1, x2⟩ := LR.more HL1.out hWr B5.out (qs := qs) (fun p hp => ⟨(LR5.out.key p (.inl hp)).1, (LR5.out.key p (.inl hp)).2.1, fun i hi => ⟨by have := ((LR5.out.key p (.inl hp)).2.2 i hi).1; omega, fun e => by have h3 := ((LR5.out.key p (.inl hp)).2.2 i hi).1; have h4 := (HL1.out.row.lt i e).2; omega⟩⟩) m6 g6 o6
          have LR6 := Lib.hid x1
          have B6 := Lib.hid (HBr.out.trans x2)
          clear m6 g6 o6 x1 x2
          refine hK.out _ _ (SS.out _ B6.out) (fun hHeld' => ?_)
          clear hK K hHeld
          have hHeld := hHeld'
          clear hHeld'
          try simp only [Act.put, List.setIfInBounds_toArray, List.set_cons_zero, List.set_cons_succ]
          refine wpAnyH_take (i := 17) (oi := { dst := some 5, op := Op.assign (Operand.tmp 45), type := 22, pos := "ref.go:105", after := #[{ on := 16, ground := Ground.data }, { on := 16, ground := Ground.chain }, { on := 0, ground := Ground.phase }, { on := 1, ground := Ground.phase }, { on := 2, ground := Ground.phase }, { on := 3, ground := Ground.phase }, { on := 4, ground := Ground.phase }, { on := 5, ground := Ground.phase }, { on := 6, ground := Ground.phase }, { on := 7, ground := Ground.phase }, { on := 8, ground := Ground.phase }, { on := 9, ground := Ground.phase }, { on := 10, ground := Ground.phase }, { on := 11, ground := Ground.phase }, { on := 12, ground := Ground.phase }, { on := 13, ground := Ground.phase }, { on := 14, ground := Ground.phase }, { on := 15, ground := Ground.phase }, { on := 16, ground := Ground.phase }], guard := none }) (v := ?v38) rfl (by kernel_rfl) (by kernel_rfl) (by kernel_rfl) (fun _ _ _ h => h) (Or.inl ⟨by rfl, ?hy38⟩) hHeld ?rest38
          case hy38 => (intro w' hSw; (try dsimp only at hSw); go_simp; (try with_reducible rfl))
          try simp only [Act.put, List.setIfInBounds_toArray, List.set_cons_zero, List.set_cons_succ]
          refine wpAnyH_done (by kernel_rfl) ?_ _
          have HP6 := Lib.hid (HP2.out qs HQS.out)
          go_wp2
          exact ⟨⟨j + 1, ps ++ qs, r', by omega, by go_num, LR6, HP6, HF2, B6⟩, by simp [intOf]; omega⟩
      · obtain rfl : j = d.nk := by omega
        obtain ⟨_, _, hdis⟩ := HF.out
        obtain rfl := hdis.done (by rw [HL.out]; exact Nat.le_refl _)
        have HE := Lib.hid (show ps.map kvP = tlist x k way by rw [← HP.out.1]; simp [Fo.list])
        have LRE := Lib.hid (show LR W.heap.size wr (.slice Ao ps.length co) ps [] from ⟨HL1.out.row, fun p hp => HL1.out.key p (.inl (by rcases hp with q | q; exact q; cases q))⟩)
        have BE := Lib.hid (BW.out.trans (HBr.out.mono BW.out.size))
        clear hdis HF
        go_wp2
        go_ret
        exact ⟨Ao, co, ps, W.heap.size, rfl, hoc, SW.out, LRE.out, HE.out, BE.out⟩
theorem rlist_tree (x : Nn) (k : Fo) : RLOk x k := rlist_step x k (Fo.all_of (fun _ x k h => rlist_step x k h) k)
set_option maxRecDepth 100000 in
set_option maxHeartbeats 1000000 in
theorem rList_any (x : Nn) (k : Fo) (B : Nat) (w : World) (cs : List Value) (hd : Dno w B x k cs) (hB : B ≤ w.heap.size) (htn : k.tn ≤ 1000) (hvs : ∀ v ∈ tvis x k [] 1, v.way.length ≤ 1000000) :
    Calls Tryz.prog 31 #[.agg cs.toArray] w (RLPost w (tlist x k [])) := by
  obtain ⟨d, ek, rfl, ha, hkid⟩ := hd
  show Calls Tryz.prog 31 #[.agg (dArr (kdV x k) d x.has x.val)] w _
  obtain ⟨W, hW⟩ : ∃ V, w.alloc (.cells (dArr (kdV x k) d x.has x.val) 45) = V := ⟨_, rfl⟩
  have bW : Below w.heap.size w W := by rw [← hW]; exact (Below.refl _ _).alloc (Nat.le_refl _) _
  have lW : Blk W w.heap.size (dArr (kdV x k) d x.has x.val) := by rw [← hW]; exact Blk.new w _ _
  have HC := Lib.hid (show Calls Tryz.prog 62 #[.agg (dArr (kdV x k) d x.has x.val), .slice none 0 0] W (RLPost W (tlist x k [])) from rlist_tree x k B W _ none 0 0 [] 1 ((show Dno w B x k (d.cells x k) from ⟨d, ek, rfl, ha, hkid⟩).below (bW.mono hB)) (byt_nil _ _) (Nat.le_trans hB bW.size) htn hvs)
  have BW := Lib.hid bW
  have c0 := lW.cell 0
  have c1 := lW.cell 1
  have c2 := lW.cell 2
  have c3 := lW.cell 3
  have c4 := lW.cell 4
  have c5 := lW.cell 5
  generalize kdV x k = kd at *
  generalize x.has = hs at *
  generalize x.val = vl at *
  clear ha hkid bW lW hvs
  go_enter Tryz.func31, Tryz.ntmps31
  go_wp2_with fail
  (with_reducible refine HC.out.mono ?_)
  rintro e w2 ⟨A', c', ps, b, rfl, h1, h2, h3, h4, h5⟩
  have H1 := Lib.hid h1
  have H2 := Lib.hid (Nat.le_trans BW.out.size h2)
  have H3 := Lib.hid h3
  have H4 := Lib.hid h4
  have H5 := Lib.hid (BW.out.trans (h5.mono BW.out.size))
  clear h1 h2 h3 h4 h5
  go_wp2_with fail
  go_ret
  exact ⟨A', c', ps, b, rfl, H1.out, H2.out, H3.out, H4.out, H5.out⟩
end Go.Proofs.YtcfokkojoppmkaaGreatDoor
