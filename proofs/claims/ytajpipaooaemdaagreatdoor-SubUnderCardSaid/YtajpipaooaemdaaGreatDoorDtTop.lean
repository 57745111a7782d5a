/-
  The document's trees, or nothing: Build, Check; Shape, Depth and Made of what Build answers.
  What holds of the canonical tree of pairs that rise, or of nothing. No program is run.
-/
import Derived.Test.YtajpipaooaemdaaGreatDoorDtBuild
import Derived.Test.YtajpipaooaemdaaGreatDoorDtShape
import Derived.Test.YtajpipaooaemdaaGreatDoorRaws
import Derived.Test.YtajpipaooaemdaaGreatDoorBuild
namespace Go.Proofs.YtajpipaooaemdaaGreatDoor
open Go.RowKit

def zero6 : List Value := [.int .i64 0, .slice none 0 0, .bool false, .int .u64 0, .slice none 0 0, .slice none 0 0]
theorem zero6_one : zero6.toArray.all (·.oneCell') = true := all_oneCell_toArray (fun v hv => by
  unfold zero6 at hv
  simp only [List.mem_cons, List.not_mem_nil, or_false] at hv
  rcases hv with rfl | rfl | rfl | rfl | rfl | rfl <;> rfl)
def ODno (w : World) : Option (Nn × Fo) → List Value → Prop
  | none, cs => cs = zero6
  | some T, cs => Dno w w.heap.size T.1 T.2 cs
theorem ODno.below {w w' : World} {t : Option (Nn × Fo)} {cs : List Value} (h : ODno w t cs) (hb : Below w.heap.size w w') : ODno w' t cs := by
  cases t with
  | none => exact h
  | some T => exact (Dno.below h hb).more hb.size
set_option maxRecDepth 100000 in
set_option maxHeartbeats 1000000 in
theorem rbuild_none (A : Option Addr) (c : Nat) (q : Int) (w : World) : Calls Tryz.prog 58 #[.slice A 0 c, .int .i64 q] w fun e w' => e = .returned (.agg zero6.toArray) ∧ Below w.heap.size w w' := by
  obtain ⟨W0, hW0⟩ : ∃ V, w.alloc (.cells #[.int .i64 0, .slice none 0 0, .bool false, .int .u64 0, .slice none 0 0, .slice none 0 0] 69) = V := ⟨_, rfl⟩
  have bW0 : Below w.heap.size w W0 := by rw [← hW0]; exact (Below.refl _ _).alloc (Nat.le_refl _) _
  have zW0 : Lst W0 w.heap.size zero6 := by rw [← hW0]; exact Blk.new w _ _
  have BE := Lib.hid (below_over bW0 zero6 bW0.size)
  have H1 := Lib.hid (Lst.all (over_six (cs := zero6) zW0 rfl rfl))
  have HTH := Lib.hid (Lst.there zW0 (o := 0) (n := 6) (Nat.le_refl _))
  have HN6 := Lib.hid zero6_one
  clear bW0 zW0
  go_enter Tryz.func58, Tryz.ntmps58
  go_wp2_with (refine wpList_store_mid rfl 69 (.tmp 4) (.tmp 12) rfl w.heap.size 0 (zero6 : List Value).toArray (by rfl) (by rfl) HTH.out size_node HN6.out ?_)
  (try simp only [Exit.inBlock, Exit.then])
  refine bodyPost_ret (node_ret Tryz.f58 rfl _ H1.out rfl (by rfl)) (by rfl) ?_
  exact ⟨rfl, BE.out⟩
set_option maxRecDepth 100000 in
set_option maxHeartbeats 1000000 in
theorem rBuild_any (f n c B : Nat) (A : Option Addr) (ps : List PV) (w : World) (ha : Prs w B A n ps) (hk : Kps w B ps) (hB : B ≤ w.heap.size) (hn : n ≤ 1000) (hnc : n ≤ c) (hl : ∀ p ∈ ps, p.key.length ≤ 1000000 ∧ p.key.length < f) (hr : Rise (rel 0 ps)) :
    Calls Tryz.prog 33 #[.slice A n c] w fun e w' => ∃ cs, e = .returned (.agg cs.toArray) ∧ ODno w' (bTr 1 f (rel 0 ps)) cs ∧ Below w.heap.size w w' := by
  obtain ⟨W0, hW0⟩ : ∃ V, w.alloc (.cells #[.int .i64 0, .slice none 0 0, .bool false, .int .u64 0, .slice none 0 0, .slice none 0 0] 69) = V := ⟨_, rfl⟩
  have bW0 : Below w.heap.size w W0 := by rw [← hW0]; exact (Below.refl _ _).alloc (Nat.le_refl _) _
  have sW0 : W0.heap.size = w.heap.size + 1 := by rw [← hW0]; simp
  have zW0 : Lst W0 w.heap.size zero6 := by rw [← hW0]; exact Blk.new w _ _
  have HC := Lib.hid (show Calls Tryz.prog 58 #[.slice A n c, .int .i64 0] W0 fun e w' => ∃ cs, e = .returned (.agg cs.toArray) ∧ ((bTr 1 f (rel 0 ps) = none ∧ cs = zero6) ∨ ∃ T, bTr 1 f (rel 0 ps) = some T ∧ DnoS w' (fun i => i < B ∨ (W0.heap.size ≤ i ∧ i < w'.heap.size)) T.1 T.2 cs) ∧ Below W0.heap.size W0 w' from by
    by_cases h0 : n = 0
    · subst h0
      have hps : ps = [] := List.eq_nil_of_length_eq_zero ha.1
      subst hps
      exact (rbuild_none A c 0 W0).mono fun e w' ⟨h1, h2⟩ => ⟨zero6, h1, .inl ⟨rfl, rfl⟩, h2⟩
    · have hne : rel 0 ps ≠ [] := fun e => by have := congrArg List.length e; rw [rel_len, ha.1] at this; simp at this; omega
      refine (rbuilds f 0 n c B A ps W0 (ha.below (bW0.mono hB)) (hk.below (bW0.mono hB)) (Nat.le_trans hB bW0.size) hn hnc (by omega) (fun p hp => ⟨Nat.zero_le _, (hl p hp).1, by have := (hl p hp).2; omega⟩) hr ⟨[], rfl, fun p _ => rfl⟩).mono fun e w' ⟨cs, h1, h2, h3⟩ => ⟨cs, h1, .inr ⟨_, by unfold bTr; rw [if_neg hne], h2⟩, h3⟩)
  have ZW := Lib.hid zW0
  have BW := Lib.hid bW0
  have SW := Lib.hid sW0
  clear ha hk hl hr bW0 zW0 sW0
  go_enter Tryz.func33, Tryz.ntmps33
  go_wp2_with fail
  (with_reducible refine HC.out.mono ?_)
  rintro e V ⟨cs, rfl, hcs, b1⟩
  have hz : Lst V w.heap.size zero6 := Blk.below ZW.out b1 (by have := SW.out; omega)
  have hbw := BW.out.trans (b1.mono BW.out.size)
  have h6 : cs.length = 6 ∧ cs.toArray.all (·.oneCell') = true := by
    rcases hcs with ⟨_, rfl⟩ | ⟨T, _, h⟩
    · exact ⟨rfl, zero6_one⟩
    · exact node_six h
  have HO := Lib.hid (show ODno (V.setCells w.heap.size 0 cs) (bTr 1 f (rel 0 ps)) cs from by
    rcases hcs with ⟨h1, h2⟩ | ⟨T, h1, h⟩
    · rw [h1]; exact h2
    · rw [h1]
      exact (hand_over h hz rfl hB (by have := SW.out; omega) hbw).2.1.dno)
  have BE := Lib.hid (below_over hbw cs hbw.size)
  have H1 := Lib.hid (Lst.all (over_six hz rfl h6.1))
  have HTH := Lib.hid (show V.there w.heap.size 0 cs.toArray.size from Lst.there hz (o := 0) (n := cs.toArray.size) (by rw [List.size_toArray, h6.1]; exact Nat.le_refl _))
  have HS := Lib.hid (show (Tryz.prog.info? 69).map (·.size) = some cs.toArray.size by rw [List.size_toArray, h6.1]; exact size_node)
  have H6 := Lib.hid h6
  clear hcs b1 hz hbw h6 HC hW0
  go_wp2_with (refine wpList_store_mid rfl 69 (.tmp 2) (.tmp 4) rfl w.heap.size 0 cs.toArray (by rfl) (by rfl) HTH.out HS.out H6.out.2 ?_)
  (try simp only [Exit.inBlock, Exit.then])
  refine bodyPost_ret (node_ret Tryz.f33 rfl _ H1.out H6.out.1 (by rfl)) (by rfl) ?_
  exact ⟨_, rfl, HO.out, BE.out⟩

abbrev z6 : Array Value := #[.int .i64 0, .slice none 0 0, .bool false, .int .u64 0, .slice none 0 0, .slice none 0 0]
def ofine : Option (Nn × Fo) → Prop
  | none => True
  | some T => lfN T.1 T.2 ∧ T.2.lf
set_option maxRecDepth 100000 in
theorem rshape_any (t : Option (Nn × Fo)) (w : World) (cs : List Value) (h : ODno w t cs) (hl : ofine t) (ok : ook t) (hs : (oshL t).length ≤ 1000000000) :
    Calls Tryz.prog 32 #[.agg cs.toArray] w fun e w' => e = .returned (.string (bstr (oshL t))) ∧ Below w.heap.size w w' := by
  cases t with
  | none =>
    obtain rfl : cs = zero6 := h
    show Calls Tryz.prog 32 #[.agg z6] w _
    have BE := Lib.hid ((Below.refl w.heap.size w).alloc (Nat.le_refl _) (.cells z6 69))
    go_enter Tryz.func32, Tryz.ntmps32
    go_wp2
    go_ret
    exact ⟨rfl, BE.out⟩
  | some T =>
    exact rshape_tree T.1 T.2 w.heap.size w cs h (Nat.le_refl _) hl.1 hl.2 ok.1 ok.2 hs
end Go.Proofs.YtajpipaooaemdaaGreatDoor

namespace Go.Proofs.YtajpipaooaemdaaGreatDoor
open Go.RowKit

/-- What is told of the canonical tree, or of nothing. -/
structure CanO (ps : List PV) (t : Option (Nn × Fo)) : Prop where
  fits : Fits t
  ok : ook t
  lf : ofine t
  sh : (oshL t).length ≤ 1000000000
  tn : otn t ≤ 1000
  cnt : cntV (otvis t) = ps.length
  lst : listV (otvis t) = (ps.map kvP).map fun p => (p.1, [.int .u64 p.2])
  fine : (otvis t).all Vt.fine = true
  dp : dpV (otvis t) ≤ 1000
theorem can_o {ps : List PV} (hr : Rsn ps) (hk : ∀ p ∈ ps, p.key.length ≤ 300) (hn : ps.length ≤ 300) (hv : ∀ p ∈ ps, 0 ≤ p.val ∧ p.val ≤ 18446744073709551615) : CanO ps (bTr 1 301 (rel 0 ps)) := by
  by_cases hne : ps = []
  · subst hne
    exact ⟨⟨fun v hv => (by cases hv), (by show (0 : Nat) ≤ _; omega)⟩, trivial, trivial, (by show (1 : Nat) ≤ _; omega), (by show (0 : Nat) ≤ _; omega), rfl, rfl, rfl, (by show (0 : Nat) ≤ _; omega)⟩
  have hL : rel 0 ps = ps.map kvP := rel_zero ps
  have hne2 : rel 0 ps ≠ [] := by rw [hL]; simpa using hne
  have hc := can_of 1 hr hne (f := 301) (fun p hp => by have := hk p hp; omega)
  have hM : ∀ p ∈ ps.map kvP, p.1.length ≤ 300 := fun p hp => by obtain ⟨q, hq, rfl⟩ := List.mem_map.1 hp; exact hk q hq
  have hlen : ∀ p ∈ rel 0 ps, p.1.length < 301 := fun p hp => by
    rw [hL] at hp
    have := hM p hp
    omega
  obtain ⟨w1, w2⟩ := cT_wf 1 301 (rel 0 ps) hne2 (rsn_rel hr) hlen
  have hok := cT_ok 1 301 (rel 0 ps) (fun p hp => by
    rw [hL] at hp
    obtain ⟨q, hq, rfl⟩ := List.mem_map.1 hp
    exact ⟨by have := hk q hq; show q.key.length ≤ _; omega, hv q hq⟩)
  have h1 := hc.points
  have h2 := hc.nodes
  rw [List.length_map] at h1 h2
  have hd := hc.depth (M := 300) hM
  have hct := hc.count
  rw [List.length_map] at hct
  unfold bTr
  rw [if_neg hne2]
  have htn : 1 + (cT 1 301 (rel 0 ps)).2.tn ≤ 600 := by unfold tnT at h2; omega
  have hsl := oshL_len hok.1 hok.2 (m := 600) htn
  exact ⟨hc.fits (fun p hp => by have := hM p hp; omega) (by rw [List.length_map]; omega), hok, ⟨w1.1, Fo.wf_lf w2⟩, by
    refine Nat.le_trans hsl ?_
    omega, by show tnT _ ≤ 1000; unfold tnT; omega, hct, hc.listed, hc.fine (fun p hp => by have := hM p hp; omega), by omega⟩
end Go.Proofs.YtajpipaooaemdaaGreatDoor
