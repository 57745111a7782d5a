/-
  What the statements' own fields and values answer: the same fields, the same values, in memory of the call's own.
-/
import Derived.Test.YtdpddkpfllioiaaDoorTupleMem
import Derived.Test.YtdpddkpfllioiaaDoorCut
namespace Go.Proofs.YtdpddkpfllioiaaDoor
open Go.RowKit

theorem info_fd : (Tryd.prog.info? 58).map (fun i => (i.zero, i.size, i.bytes)) = some (some (.agg #[.int .i64 0, .bool false]), 2, 16) := by kernel_rfl
theorem info_vl : (Tryd.prog.info? 69).map (fun i => (i.zero, i.size, i.bytes)) = some (some (.agg #[.int .u64 0, .int .i64 0, .slice none 0 0, .bool false]), 4, 48) := by kernel_rfl
theorem info_rfd : (Tryd.prog.info? 57).map (fun i => (i.zero, i.size, i.bytes)) = some (some (.agg #[.int .i64 0, .bool false]), 2, 16) := by kernel_rfl
theorem info_rvl : (Tryd.prog.info? 68).map (fun i => (i.zero, i.size, i.bytes)) = some (some (.agg #[.int .u64 0, .int .i64 0, .slice none 0 0, .bool false]), 4, 48) := by kernel_rfl

/-- A row of fields of the call's own. -/
def FRow (w : World) (base : Nat) (e : TypeId) (v : Value) (n : Nat) (fs : List Fd) : Prop := MineR w base e 2 v n (fs.map fcs)
theorem FRow.snoc {w : World} {base : Nat} {e : TypeId} {v : Value} {n : Nat} {fs : List Fd} {f : Fd} (h : MineR w base e 2 v n (fs.map fcs ++ [fcs f])) : FRow w base e v n (fs ++ [f]) := by unfold FRow; rw [List.map_append]; exact h
theorem below_mine {B : Nat} {w w1 w2 : World} {base : Nat} {e : TypeId} {k : Nat} {v : Value} {n : Nat} {css : List (List Value)} (h : Below B w w1) (hm : MineR w1 base e k v n css) (hg : w1.grownBy w2 v.ownBlock) (hB : B ≤ base) (hs : B ≤ w1.heap.size) : Below B w w2 :=
  h.grown hg hs (fun g hg' => Nat.le_trans hB (hm.lt g hg').1)
theorem below_vrow {B : Nat} {w w1 w2 : World} {base : Nat} {e : TypeId} {v : Value} {n : Nat} {vs : List Vl} (h : Below B w w1) (hm : VRow w1 base e v n vs) (hg : w1.grownBy w2 v.ownBlock) (hB : B ≤ base) (hs : B ≤ w1.heap.size) : Below B w w2 :=
  h.grown hg hs (fun g hg' => Nat.le_trans hB (hm.lt g hg').1)
/-- What is left where fields, or values, are handed back. -/
def FsPost (w : World) (fs : List Fd) (e : Ending) (w' : World) : Prop := ∃ A n c, e = .returned (.slice A n c) ∧ Fds w' w'.heap.size A n fs ∧ n ≤ c ∧ Below w.heap.size w w'
def VsPost (w : World) (vs : List Vl) (e : Ending) (w' : World) : Prop := ∃ A n c, e = .returned (.slice A n c) ∧ Vls w' w'.heap.size A n vs ∧ n ≤ c ∧ Below w.heap.size w w'
theorem two_cells {w : World} {t : TypeId} {a b : Value} : ∀ (j : Nat) (u : Value), [a, b][j]? = some u → (w.alloc (.cells #[a, b] t)).cell? ((⟨w.heap.size, 0, none⟩ : Addr).add j) = some u := by
  intro j u hu
  have h := Two.new w t a b
  match j, hu with
  | 0, hu => simp at hu; subst hu; exact h.k0
  | 1, hu => simp at hu; subst hu; exact h.k1
theorem four_cells {w : World} {t : TypeId} {a b c d : Value} : ∀ (j : Nat) (u : Value), [a, b, c, d][j]? = some u → (w.alloc (.cells #[a, b, c, d] t)).cell? ((⟨w.heap.size, 0, none⟩ : Addr).add j) = some u := by
  intro j u hu
  have h := Four.new w t a b c d
  match j, hu with
  | 0, hu => simp at hu; subst hu; exact h.c0
  | 1, hu => simp at hu; subst hu; exact h.c1
  | 2, hu => simp at hu; subst hu; exact h.c2
  | 3, hu => simp at hu; subst hu; exact h.c3

set_option maxRecDepth 100000 in
set_option maxHeartbeats 1000000 in
theorem fields_any (A : Option Addr) (n c B : Nat) (fs : List Fd) (w : World) (ha : Fds w B A n fs) (hB : B ≤ w.heap.size) (hn : n ≤ 1000) :
    Calls Tryd.prog 10 #[.slice A n c] w (FsPost w fs) := by
  have HN := Lib.hid ha.length
  have HA := Lib.hid (fun V (h : Below w.heap.size w V) => (ha.more hB).below h)
  clear ha
  go_enter Tryd.func10, Tryd.ntmps10
  go_wp2
  go_loopw [3, 8] (fun v i wr => ∃ k : Nat, k ≤ n ∧ i = .int .i64 k ∧ Hid (FRow wr w.heap.size 58 v k (fs.take k)) ∧ Hid (Below w.heap.size w wr)) (fun _ i _ => n - (intOf i).toNat)
  case atStart => exact ⟨0, Nat.zero_le _, rfl, MineR.nil _ _ _ _, Below.refl _ _⟩
  case round =>
    obtain ⟨k, hk, rfl, HR, HB⟩ := hrel
    by_cases h1 : k < n
    · obtain ⟨ad, f, rfl, hlt, hf, c0, c1⟩ := (HA.out _ HB.out).at_ h1
      have HF := Lib.hid hf
      clear hf
      obtain ⟨A1, cp1, rfl, _⟩ := MineR.slice HR.out
      have HM := Lib.hid (fun (o1 o2 : Obj) => (MineR.alloc HR.out o1).alloc o2)
      have HS := Lib.hid (fun (o1 o2 : Obj) => show Below w.heap.size w ((wr.alloc o1).alloc o2) from (HB.out.alloc HB.out.size _).alloc (by have := HB.out.size; simp; omega) _)
      have hsz := HB.out.size
      go_wp2_with (at_builtin
                   refine wpList_append_rws ((wr.alloc (.cells #[.int .i64 f.k, .bool f.f] 57)).alloc (.cells #[.int .i64 f.k, .bool f.f] 58)) rfl (.tmp 12) (.tmp 14) _ rfl Tryd.underlying30 info_fd rfl (by decide) w.heap.size (.slice A1 k cp1) k ((fs.take k).map fcs) rfl (HM.out _ _) ⟨wr.heap.size + 1, 0, none⟩ 1 (fcs f) rfl rfl (by have := two_cells (w := wr.alloc (.cells #[.int .i64 f.k, .bool f.f] 57)) (t := 58) (a := .int .i64 f.k) (b := .bool f.f); rwa [World.size_alloc] at this) (by intro u hu; simp [fcs] at hu; rcases hu with rfl | rfl <;> rfl) (by omega) (by unfold maxLen; omega) (by simp; omega) ?_
                   intro v2 w2 hm2 hg2 _
                   have M2 := Lib.hid (FRow.snoc hm2)
                   have C2 := Lib.hid (below_mine (HS.out _ _) (HM.out _ _) hg2 (Nat.le_refl _) (by simp; omega))
                   clear hm2 hg2)
      go_wp2
      exact ⟨⟨k + 1, by omega, by go_num, by rw [take_step HF.out]; exact M2, C2⟩, by simp [intOf]; omega⟩
    · obtain rfl : k = n := by omega
      obtain ⟨A1, cp1, rfl, hc1⟩ := MineR.slice HR.out
      go_wp2
      go_ret
      exact ⟨A1, k, cp1, rfl, by have := MineR.rws HR.out; rwa [List.take_of_length_le (by rw [HN.out]; exact Nat.le_refl _)] at this, hc1, HB.out⟩

set_option maxRecDepth 100000 in
set_option maxHeartbeats 1000000 in
theorem values_any (A : Option Addr) (n c B : Nat) (vs : List Vl) (w : World) (ha : Vls w B A n vs) (hB : B ≤ w.heap.size) (hn : n ≤ 1000) :
    Calls Tryd.prog 11 #[.slice A n c] w (VsPost w vs) := by
  have HN := Lib.hid ha.length
  have HA := Lib.hid (fun V (h : Below w.heap.size w V) => (ha.more hB).below h)
  clear ha
  go_enter Tryd.func11, Tryd.ntmps11
  go_wp2
  go_loopw [3, 8] (fun v i wr => ∃ k : Nat, k ≤ n ∧ i = .int .i64 k ∧ Hid (VRow wr w.heap.size 69 v k (vs.take k)) ∧ Hid (Below w.heap.size w wr)) (fun _ i _ => n - (intOf i).toNat)
  case atStart => exact ⟨0, Nat.zero_le _, rfl, VRow.nil _ _ _, Below.refl _ _⟩
  case round =>
    obtain ⟨k, hk, rfl, HR, HB⟩ := hrel
    by_cases h1 : k < n
    · obtain ⟨ad, v, A', m', cp', rfl, hlt, hv, c0, c1, c2, c3, hy, hm⟩ := (HA.out _ HB.out).at_ h1
      have HV := Lib.hid hv
      have hsz := HB.out.size
      have HY := Lib.hid (show ∀ (o1 o2 : Obj), VIs ((wr.alloc o1).alloc o2) ((wr.alloc o1).alloc o2).heap.size [.int .u64 (v.u : Int), .int .i64 v.i, .slice A' m' cp', .bool v.t] v from
        fun o1 o2 => ⟨A', m', cp', rfl, ((hy.alloc hsz o1).alloc (by simp; omega) o2).more (by simp; omega), hm⟩)
      clear hv hy
      obtain ⟨A1, cp1, rfl, _⟩ := VRow.slice HR.out
      have HM := Lib.hid (fun (o1 o2 : Obj) => (VRow.alloc HR.out o1).alloc o2)
      have HS := Lib.hid (fun (o1 o2 : Obj) => show Below w.heap.size w ((wr.alloc o1).alloc o2) from (HB.out.alloc HB.out.size _).alloc (by have := HB.out.size; simp; omega) _)
      go_wp2_with (at_builtin
                   refine wpList_append_vrow ((wr.alloc (.cells #[.int .u64 (v.u : Int), .int .i64 v.i, .slice A' m' cp', .bool v.t] 68)).alloc (.cells #[.int .u64 (v.u : Int), .int .i64 v.i, .slice A' m' cp', .bool v.t] 69)) rfl (.tmp 12) (.tmp 22) _ rfl Tryd.underlying32 info_vl w.heap.size (.slice A1 k cp1) k (vs.take k) rfl (HM.out _ _) ⟨wr.heap.size + 1, 0, none⟩ 1 [.int .u64 (v.u : Int), .int .i64 v.i, .slice A' m' cp', .bool v.t] v rfl (HY.out _ _) (by have := four_cells (w := wr.alloc (.cells #[.int .u64 (v.u : Int), .int .i64 v.i, .slice A' m' cp', .bool v.t] 68)) (t := 69) (a := .int .u64 (v.u : Int)) (b := .int .i64 v.i) (c := .slice A' m' cp') (d := .bool v.t); rwa [World.size_alloc] at this) (by omega) (by unfold maxLen; omega) (by simp; omega) ?_
                   intro v2 w2 hm2 hg2 _
                   have M2 := Lib.hid hm2
                   have C2 := Lib.hid (below_vrow (HS.out _ _) (HM.out _ _) hg2 (Nat.le_refl _) (by simp; omega))
                   clear hm2 hg2)
      go_wp2
      exact ⟨⟨k + 1, by omega, by go_num, by rw [take_step HV.out]; exact M2, C2⟩, by simp [intOf]; omega⟩
    · obtain rfl : k = n := by omega
      obtain ⟨A1, cp1, rfl, hc1⟩ := VRow.slice HR.out
      go_wp2
      go_ret
      exact ⟨A1, k, cp1, rfl, by have := VRow.vls HR.out; rwa [List.take_of_length_le (by rw [HN.out]; exact Nat.le_refl _)] at this, hc1, HB.out⟩
/-- The value of nothing; a row of such. -/
def zV : Vl := ⟨0, 0, [], false⟩
def zcs : List Value := [.int .u64 0, .int .i64 0, .slice none 0 0, .bool false]
theorem zcs_is (w : World) (B : Nat) : VIs w B zcs zV := ⟨none, 0, 0, rfl, Byt.none_, Nat.le_refl _⟩
theorem zeros_flat (n : Nat) : (List.replicate n zcs).flatten = (madeCells (Value.agg #[.int .u64 0, .int .i64 0, .slice none 0 0, .bool false]).cells (n * 4)).toList := by
  apply List.ext_getElem?
  intro j
  have hl : ∀ c ∈ List.replicate n zcs, c.length = 4 := by intro c hc; rw [List.mem_replicate] at hc; rw [hc.2]; rfl
  rcases Nat.lt_or_ge j (n * 4) with h | h
  · have hq : j = j / 4 * 4 + j % 4 := by omega
    have hlt : j % 4 < 4 := Nat.mod_lt _ (by decide)
    have hj : (List.replicate n zcs)[j / 4]? = some zcs := by rw [List.getElem?_replicate, if_pos (by omega)]
    have e1 : (List.replicate n zcs).flatten[j]? = zcs[j % 4]? := by rw [hq]; rw [flatten_at hl hj hlt]; congr 1; omega
    rw [e1]
    rcases (by omega : j % 4 = 0 ∨ j % 4 = 1 ∨ j % 4 = 2 ∨ j % 4 = 3) with q | q | q | q <;> simp [madeCells, Value.cells, h, q, zcs]
  · rw [List.getElem?_eq_none (by rw [flatten_len hl]; simpa using h), List.getElem?_eq_none (by simp [madeCells]; exact h)]
theorem make_vals (w : World) {n : Nat} (hn : n ≤ 1000) : (Instr.makeSlice 32 (.int .i64 (n : Int)) (.int .i64 (n : Int))).run Tryd.prog w = .ok (.slice (some ⟨w.heap.size, 0, none⟩) n n) (w.alloc (.cells (List.replicate n zcs).flatten.toArray 69)) := by
  obtain ⟨i0, hi0, hz0, hz1, hz2⟩ := info_parts info_vl
  have h := run_make (P := Tryd.prog) w 32 69 i0 _ Tryd.underlying32 hi0 hz0 .i64 .i64 (n : Int) (n : Int) (by omega) (Int.le_refl _) (by rw [hz2]; omega) (by omega)
  rw [Int.toNat_natCast, hz1] at h
  rw [zeros_flat]
  exact h
theorem made_row (w : World) (n : Nat) (hn : n ≤ 1000) (e : TypeId) : VRow (w.alloc (.cells (List.replicate n zcs).flatten.toArray e)) w.heap.size e (.slice (some ⟨w.heap.size, 0, none⟩) n n) n (List.replicate n zV) := by
  have hl : ∀ c ∈ List.replicate n zcs, c.length = 4 := by intro c hc; rw [List.mem_replicate] at hc; rw [hc.2]; rfl
  have hv : VIss (w.alloc (.cells (List.replicate n zcs).flatten.toArray e)) (w.alloc (.cells (List.replicate n zcs).flatten.toArray e)).heap.size (List.replicate n zcs) (List.replicate n zV) := by
    refine ⟨by simp, fun j c v hc hv => ?_⟩
    rw [List.getElem?_replicate] at hc hv
    split at hc
    · rename_i q
      rw [if_pos q] at hv
      injection hc with hc
      injection hv with hv
      subst hc hv
      exact zcs_is _ _
    · cases hc
  refine ⟨List.replicate n zcs, ⟨?_, by simp, hl⟩, ?_, hv⟩
  · have := World.ownsRow_lit (base := w.heap.size) (e := e) (size := 4) w (List.replicate n zcs).flatten.toArray n (Nat.le_refl _) (by unfold maxLen; omega) (by rw [List.size_toArray, flatten_len hl]; simp)
    simpa using this
  · intro g cur t z x hg hh
    simp only [Value.ownBlock, Option.some.injEq] at hg
    subst hg
    rw [heap_alloc_new] at hh
    simp only [Option.some.injEq, Obj.cells.injEq] at hh
    obtain ⟨rfl, _, _⟩ := hh
    rw [List.mem_toArray]
    exact viss_nob hv x
theorem VRow.there {w : World} {base : Nat} {e : TypeId} {g n c : Nat} {vs : List Vl} (h : VRow w base e (.slice (some ⟨g, 0, none⟩) n c) n vs) {j : Nat} (hj : j < n) :
    (∃ x0 x1 x2 x3, w.cell? ⟨g, j * 4, none⟩ = some x0 ∧ w.cell? ⟨g, j * 4 + 1, none⟩ = some x1 ∧ w.cell? ⟨g, j * 4 + 2, none⟩ = some x2 ∧ w.cell? ⟨g, j * 4 + 3, none⟩ = some x3) ∧ ∀ o, w.frozen? ⟨g, o, none⟩ = false := by
  obtain ⟨css, h1, _, _⟩ := h
  have hl := h1.1.1
  have at_ : ∀ i, i < 4 → ∃ x, w.cell? ⟨g, j * 4 + i, none⟩ = some x := fun i hi => by
    rw [h1.1.cellAt (j * 4 + i) (by omega)]
    exact ⟨_, List.getElem?_eq_getElem (by omega)⟩
  obtain ⟨x0, e0⟩ := at_ 0 (by decide)
  obtain ⟨x1, e1⟩ := at_ 1 (by decide)
  obtain ⟨x2, e2⟩ := at_ 2 (by decide)
  obtain ⟨x3, e3⟩ := at_ 3 (by decide)
  exact ⟨⟨x0, x1, x2, x3, e0, e1, e2, e3⟩, fun o => h1.1.frozenAt o⟩
/-- A value stored into a row of the call's own. -/
theorem VRow.store {w : World} {base : Nat} {e : TypeId} {g n c : Nat} {vs : List Vl} (h : VRow w base e (.slice (some ⟨g, 0, none⟩) n c) n vs) (j : Nat) (hj : j < n) (v : Vl) {A : Option Addr} {m cp : Nat} (hy : Byt w w.heap.size A m v.l) (hm : m ≤ cp) :
    VRow ((((w.setCell ⟨g, j * 4, none⟩ (.int .u64 (v.u : Int))).setCell ⟨g, j * 4 + 1, none⟩ (.int .i64 v.i)).setCell ⟨g, j * 4 + 2, none⟩ (.slice A m cp)).setCell ⟨g, j * 4 + 3, none⟩ (.bool v.t)) base e (.slice (some ⟨g, 0, none⟩) n c) n (vs.set j v) ∧
    w.grownBy ((((w.setCell ⟨g, j * 4, none⟩ (.int .u64 (v.u : Int))).setCell ⟨g, j * 4 + 1, none⟩ (.int .i64 v.i)).setCell ⟨g, j * 4 + 2, none⟩ (.slice A m cp)).setCell ⟨g, j * 4 + 3, none⟩ (.bool v.t)) (some g) := by
  have hV := h
  obtain ⟨css, h1, h2, h3⟩ := h
  have s1 := h1.1.stored (j * 4) (.int .u64 (v.u : Int))
  have s2 := s1.1.stored (j * 4 + 1) (.int .i64 v.i)
  have s3 := s2.1.stored (j * 4 + 2) (.slice A m cp)
  have s4 := s3.1.stored (j * 4 + 3) (.bool v.t)
  have hg : w.grownBy ((((w.setCell ⟨g, j * 4, none⟩ (.int .u64 (v.u : Int))).setCell ⟨g, j * 4 + 1, none⟩ (.int .i64 v.i)).setCell ⟨g, j * 4 + 2, none⟩ (.slice A m cp)).setCell ⟨g, j * 4 + 3, none⟩ (.bool v.t)) (some g) := by
    refine ⟨rfl, rfl, rfl, by simp, fun k hk hne => ?_⟩
    rw [s4.2.block k (by simpa using hk) hne, s3.2.block k (by simpa using hk) hne, s2.2.block k (by simpa using hk) hne, s1.2.block k hk hne]
  refine ⟨⟨css.set j [.int .u64 (v.u : Int), .int .i64 v.i, .slice A m cp, .bool v.t], ⟨?_, by simp [h1.2.1], ?_⟩, ?_, ?_⟩, hg⟩
  · have hj' : j < css.length := by have := h1.2.1; omega
    have e : (css.set j [.int .u64 (v.u : Int), .int .i64 v.i, .slice A m cp, .bool v.t]).flatten = (((css.flatten.set (j * 4) (.int .u64 (v.u : Int))).set (j * 4 + 1) (.int .i64 v.i)).set (j * 4 + 2) (.slice A m cp)).set (j * 4 + 3) (.bool v.t) := by
      clear s1 s2 s3 s4 hg h3
      have hl := h1.2.2
      clear h1 hV hj hm
      induction css generalizing j with
      | nil => simp at hj'
      | cons d css ih =>
        have hd : d.length = 4 := hl d (by simp)
        match d, hd with
        | [d0, d1, d2, d3], _ =>
          cases j with
          | zero => simp
          | succ j =>
            have := ih j (by simpa using hj') (fun c hc => hl c (by simp [hc]))
            simp only [List.set_cons_succ, List.flatten_cons, this]
            have e4 : (j + 1) * 4 = j * 4 + 4 := by omega
            rw [e4]
            simp
    rw [e]
    exact s4.1
  · intro d hd
    rcases List.mem_or_eq_of_mem_set hd with q | q
    · exact h1.2.2 d q
    · rw [q]; rfl
  · intro g' cur t z x hg' hh
    simp only [Value.ownBlock, Option.some.injEq] at hg'
    subst hg'
    rcases h1.1.2 with ⟨q, _⟩ | ⟨g0, cap, cur0, q, _, hc0, _⟩
    · simp at q
    · simp only [Value.slice.injEq, Option.some.injEq, Addr.mk.injEq, and_true, true_and] at q
      obtain ⟨rfl, rfl⟩ := q
      have n0 := h2 g cur0 e (0, 0) x rfl hc0
      have t1 := heap_setCell_same w g (j * 4) cur0 e (.int .u64 (v.u : Int)) hc0
      have t2 := heap_setCell_same _ g (j * 4 + 1) _ e (.int .i64 v.i) t1
      have t3 := heap_setCell_same _ g (j * 4 + 2) _ e (.slice A m cp) t2
      have t4 := heap_setCell_same _ g (j * 4 + 3) _ e (.bool v.t) t3
      rw [t4] at hh
      simp only [Option.some.injEq, Obj.cells.injEq] at hh
      obtain ⟨rfl, _, _⟩ := hh
      intro hx
      have go : ∀ {a : Array Value} {i : Nat} {u : Value}, Value.int .u8 x ∈ a.setIfInBounds i u → u ≠ .int .u8 x → Value.int .u8 x ∈ a := fun {a i u} hm hne => by
        rcases Array.mem_or_eq_of_mem_setIfInBounds hm with q | q
        · exact q
        · exact absurd q.symm hne
      exact n0 (go (go (go (go hx (by simp)) (by simp)) (by simp)) (by simp))
  · have k : ∀ A n l, Byt w w.heap.size A n l → Byt _ w.heap.size A n l := fun A n l hb => hV.byt hb hg
    have := (h3.keep k).set ⟨A, m, cp, rfl, k _ _ _ hy, hm⟩ j
    simpa using this
end Go.Proofs.YtdpddkpfllioiaaDoor
