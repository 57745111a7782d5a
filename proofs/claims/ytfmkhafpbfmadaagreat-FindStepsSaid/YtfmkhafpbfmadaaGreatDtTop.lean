/-
  The document's trees, or nothing: Build, Check; Shape, Depth and Made of what Build answers.
-/
import Derived.Test.YtfmkhafpbfmadaaGreatDtBuild
import Derived.Test.YtfmkhafpbfmadaaGreatCanonQ
namespace Go.Proofs.YtfmkhafpbfmadaaGreat
open Go.RowKit

def zero6 : List Value := [.int .i64 0, .slice none 0 0, .bool false, .int .u64 0, .slice none 0 0, .slice none 0 0]
theorem zero6_one : zero6.toArray.all (·.oneCell') = true := all_oneCell_toArray (fun v hv => by
  unfold zero6 at hv
  simp only [List.mem_cons, List.not_mem_nil, or_false] at hv
  rcases hv with rfl | rfl | rfl | rfl | rfl | rfl <;> rfl)
def ODno (w : World) : Option (Nn × Fo) → List Value → Prop
  | none, cs => cs = zero6
  | some T, cs => Dno w w.heap.size T.1 T.2 cs
theorem ODno.below {w w' : World} {t : Option (Nn × Fo)} {cs : List Value} (h : ODno w t cs) (hb : Below w.heap.size w w') : ODno w' t cs := by
  cases t with
  | none => exact h
  | some T => exact (Dno.below h hb).more hb.size
theorem ODno.six {w : World} {t : Option (Nn × Fo)} {cs : List Value} (h : ODno w t cs) : ∃ (a : Int) (A : Option Addr) (n c : Nat) (hs : Bool) (v : Int) (Ab : Option Addr) (nb cb : Nat) (Ak : Option Addr) (nk ck : Nat), cs = [.int .i64 a, .slice A n c, .bool hs, .int .u64 v, .slice Ab nb cb, .slice Ak nk ck] := by
  cases t with
  | none => exact ⟨_, _, _, _, _, _, _, _, _, _, _, _, h⟩
  | some T =>
    obtain ⟨d, ek, e, _⟩ := h
    exact ⟨_, _, _, _, _, _, _, _, _, _, _, _, e⟩

set_option maxRecDepth 100000 in
set_option maxHeartbeats 1000000 in
theorem rbuild_none (A : Option Addr) (c : Nat) (q : Int) (w : World) : Calls Tryz.prog 37 #[.slice A 0 c, .int .i64 q] w fun e w' => e = .returned (.agg zero6.toArray) ∧ Below w.heap.size w w' := by
  obtain ⟨W0, hW0⟩ : ∃ V, w.alloc (.cells #[.int .i64 0, .slice none 0 0, .bool false, .int .u64 0, .slice none 0 0, .slice none 0 0] 51) = V := ⟨_, rfl⟩
  have bW0 : Below w.heap.size w W0 := by rw [← hW0]; exact (Below.refl _ _).alloc (Nat.le_refl _) _
  have zW0 : Lst W0 w.heap.size zero6 := by rw [← hW0]; exact Blk.new w _ _
  have BE := Lib.hid (below_over bW0 zero6 bW0.size)
  have H1 := Lib.hid (Lst.all (over_six (cs := zero6) zW0 rfl rfl))
  have HTH := Lib.hid (Lst.there zW0 (o := 0) (n := 6) (Nat.le_refl _))
  have HN6 := Lib.hid zero6_one
  clear bW0 zW0
  go_enter Tryz.func37, Tryz.ntmps37
  go_wp2_with (refine wpList_store_mid rfl 51 (.tmp 4) (.tmp 12) rfl w.heap.size 0 (zero6 : List Value).toArray (by rfl) (by rfl) HTH.out size_node HN6.out ?_)
  (try simp only [Exit.inBlock, Exit.then])
  refine bodyPost_ret (node_ret Tryz.f37 rfl _ H1.out rfl (by rfl)) (by rfl) ?_
  exact ⟨rfl, BE.out⟩
set_option maxRecDepth 100000 in
set_option maxHeartbeats 1000000 in
theorem rBuild_any (f n c B : Nat) (A : Option Addr) (ps : List PV) (w : World) (ha : Prs w B A n ps) (hk : Kps w B ps) (hB : B ≤ w.heap.size) (hn : n ≤ 1000) (hnc : n ≤ c) (hl : ∀ p ∈ ps, p.key.length ≤ 1000000 ∧ p.key.length < f) (hr : Rise (rel 0 ps)) :
    Calls Tryz.prog 21 #[.slice A n c] w fun e w' => ∃ cs, e = .returned (.agg cs.toArray) ∧ ODno w' (bTr 1 f (rel 0 ps)) cs ∧ Below w.heap.size w w' := by
  obtain ⟨W0, hW0⟩ : ∃ V, w.alloc (.cells #[.int .i64 0, .slice none 0 0, .bool false, .int .u64 0, .slice none 0 0, .slice none 0 0] 51) = V := ⟨_, rfl⟩
  have bW0 : Below w.heap.size w W0 := by rw [← hW0]; exact (Below.refl _ _).alloc (Nat.le_refl _) _
  have sW0 : W0.heap.size = w.heap.size + 1 := by rw [← hW0]; simp
  have zW0 : Lst W0 w.heap.size zero6 := by rw [← hW0]; exact Blk.new w _ _
  have HC := Lib.hid (show Calls Tryz.prog 37 #[.slice A n c, .int .i64 0] W0 fun e w' => ∃ cs, e = .returned (.agg cs.toArray) ∧ ((bTr 1 f (rel 0 ps) = none ∧ cs = zero6) ∨ ∃ T, bTr 1 f (rel 0 ps) = some T ∧ DnoS w' (fun i => i < B ∨ (W0.heap.size ≤ i ∧ i < w'.heap.size)) T.1 T.2 cs) ∧ Below W0.heap.size W0 w' from by
    by_cases h0 : n = 0
    · subst h0
      have hps : ps = [] := List.eq_nil_of_length_eq_zero ha.1
      subst hps
      exact (rbuild_none A c 0 W0).mono fun e w' ⟨h1, h2⟩ => ⟨zero6, h1, .inl ⟨rfl, rfl⟩, h2⟩
    · have hne : rel 0 ps ≠ [] := fun e => by have := congrArg List.length e; rw [rel_len, ha.1] at this; simp at this; omega
      refine (rbuilds f 0 n c B A ps W0 (ha.below (bW0.mono hB)) (hk.below (bW0.mono hB)) (Nat.le_trans hB bW0.size) hn hnc (by omega) (fun p hp => ⟨Nat.zero_le _, (hl p hp).1, by have := (hl p hp).2; omega⟩) hr ⟨[], rfl, fun p _ => rfl⟩).mono fun e w' ⟨cs, h1, h2, h3⟩ => ⟨cs, h1, .inr ⟨_, by unfold bTr; rw [if_neg hne], h2⟩, h3⟩)
  have ZW := Lib.hid zW0
  have BW := Lib.hid bW0
  have SW := Lib.hid sW0
  clear ha hk hl hr bW0 zW0 sW0
  go_enter Tryz.func21, Tryz.ntmps21
  go_wp2_with fail
  (with_reducible refine HC.out.mono ?_)
  rintro e V ⟨cs, rfl, hcs, b1⟩
  have hz : Lst V w.heap.size zero6 := Blk.below ZW.out b1 (by have := SW.out; omega)
  have hbw := BW.out.trans (b1.mono BW.out.size)
  have h6 : cs.length = 6 ∧ cs.toArray.all (·.oneCell') = true := by
    rcases hcs with ⟨_, rfl⟩ | ⟨T, _, h⟩
    · exact ⟨rfl, zero6_one⟩
    · exact node_six h
  have HO := Lib.hid (show ODno (V.setCells w.heap.size 0 cs) (bTr 1 f (rel 0 ps)) cs from by
    rcases hcs with ⟨h1, h2⟩ | ⟨T, h1, h⟩
    · rw [h1]; exact h2
    · rw [h1]
      exact (hand_over h hz rfl hB (by have := SW.out; omega) hbw).2.1.dno)
  have BE := Lib.hid (below_over hbw cs hbw.size)
  have H1 := Lib.hid (Lst.all (over_six hz rfl h6.1))
  have HTH := Lib.hid (show V.there w.heap.size 0 cs.toArray.size from Lst.there hz (o := 0) (n := cs.toArray.size) (by rw [List.size_toArray, h6.1]; exact Nat.le_refl _))
  have HS := Lib.hid (show (Tryz.prog.info? 51).map (·.size) = some cs.toArray.size by rw [List.size_toArray, h6.1]; exact size_node)
  have H6 := Lib.hid h6
  clear hcs b1 hz hbw h6 HC hW0
  go_wp2_with (refine wpList_store_mid rfl 51 (.tmp 2) (.tmp 4) rfl w.heap.size 0 cs.toArray (by rfl) (by rfl) HTH.out HS.out H6.out.2 ?_)
  (try simp only [Exit.inBlock, Exit.then])
  refine bodyPost_ret (node_ret Tryz.f21 rfl _ H1.out H6.out.1 (by rfl)) (by rfl) ?_
  exact ⟨_, rfl, HO.out, BE.out⟩

abbrev z6 : Array Value := #[.int .i64 0, .slice none 0 0, .bool false, .int .u64 0, .slice none 0 0, .slice none 0 0]
end Go.Proofs.YtfmkhafpbfmadaaGreat
