/-
  The law's own raws: the tree that is told node by node, as the program's own calls make it.
-/
import Derived.Test.YtcfokkojoppmkaaGreatDoorRaw
import Derived.Deep.RegionHeld3
import Derived.IntWalk
import Derived.Deep.CutBlock
import Derived.Deep.DeepCutAuto
namespace Go.Proofs.YtcfokkojoppmkaaGreatDoor
open Go.RowKit

set_option maxRecDepth 100000 in
theorem info_nodep : (Tryz.prog.info? 32).map (fun i => (i.zero, i.size, i.bytes)) = some (some (.pointer none), 1, 8) := by kernel_rfl
theorem Rzs.more {w : World} {B B' n : Nat} {A : Option Addr} {rs : List Rw} (h : Rzs w B A n rs) (hB : B ≤ B') : Rzs w B' A n rs := ⟨h.1.more hB, fun r hr => ⟨(h.2 r hr).1.more hB, (h.2 r hr).2⟩⟩
abbrev ptrG (g : Nat) : List Value := [.pointer (some ⟨g, 0, none⟩)]
theorem MineR.keptK {D : Nat → Prop} {w w' : World} {base k n : Nat} {e : TypeId} {v : Value} {css : List (List Value)} (h : MineR w base e k v n css) (hk : Kept D w w') (hD : ∀ i, v.ownBlock = some i → ¬ D i) : MineR w' base e k v n css := by
  refine ⟨⟨h.1.1, ?_⟩, h.2⟩
  rcases h.1.2 with q | ⟨g, cap, cur, rfl, h1, h2, h3⟩
  · exact .inl q
  · exact .inr ⟨g, cap, cur, rfl, h1, (hk.block g (Array.getElem?_eq_some_iff.1 h2).1 (hD g rfl)).trans h2, h3⟩
/-- Where the loop stands, k nodes made. -/
def RwS (w : World) (rs : List Rw) (k : Nat) (v : Value) (wr : World) : Prop :=
  ∃ gs : List Nat, gs.length = k ∧ MineR wr w.heap.size 32 1 v k (gs.map ptrG) ∧ Ns wr w.heap.size (fun i => v.ownBlock = some i) (nodesL rs gs (stR rs k)) ∧ Below w.heap.size w wr
def rwC (r : Rw) : Array Value := #[.bool r.leaf, .slice r.A r.n r.c, .bool r.has, .int .u64 r.val, .int .u8 (r.up.toNat : Int), .int .u8 (r.b.toNat : Int)]
/-- In a round: nodes l, the box of the one that is told in block q. -/
structure RwM (w : World) (k : Nat) (gs : List Nat) (r : Rw) (v : Value) (q : Nat) (l : List (Nat × Nd)) (wc : World) : Prop where
  row : MineR wc w.heap.size 32 1 v k (gs.map ptrG)
  nodes : Ns wc w.heap.size (fun i => v.ownBlock = some i ∨ i = q) l
  box : Blk wc q (rwC r)
  below : Below w.heap.size w wc
  apart : ¬ v.ownBlock = some q
section
variable {w wr wc w' : World} {rs : List Rw} {k q : Nat} {gs : List Nat} {r : Rw} {v : Value} {l : List (Nat × Nd)}
/-- A box is made. -/
theorem RwM.start (h1 : MineR wr w.heap.size 32 1 v k (gs.map ptrG)) (h2 : Ns wr w.heap.size (fun i => v.ownBlock = some i) l) (h3 : Below w.heap.size w wr) (t : TypeId) :
    RwM w k gs r v wr.heap.size l (wr.alloc (.cells (rwC r) t)) := by
  have hb : Below wr.heap.size wr (wr.alloc (.cells (rwC r) t)) := (Below.refl _ _).alloc (Nat.le_refl _) _
  exact ⟨h1.alloc _, (h2.more fun i hi => hi.elim .inl fun q => .inr (by omega)).below hb, Blk.new _ _ _, h3.alloc h3.size _, fun e => by have := (h1.lt _ e).2; omega⟩
theorem RwM.no (h : RwM w k gs r v q l wc) : ∀ i, (v.ownBlock = some i ∨ i = q) → i < wc.heap.size := fun i hi => by
  rcases hi with hi | hi
  · exact (h.row.lt i hi).2
  · have := h.box.lt; omega
/-- What turns nodes alone. -/
theorem RwM.on (h : RwM w k gs r v q l wc) {D : Nat → Prop} {l' : List (Nat × Nd)} (hk : Kept D wc w') (hD : ∀ i, D i → w.heap.size ≤ i ∧ ¬ (v.ownBlock = some i ∨ i = q)) (hn : Ns w' w.heap.size (fun i => v.ownBlock = some i ∨ i = q) l') : RwM w k gs r v q l' w' :=
  ⟨h.row.keptK hk (fun i hi q => (hD i q).2 (.inl hi)), hn, hk.blk h.box (fun q => (hD _ q).2 (.inr rfl)), h.below.trans (hk.below h.below.size fun i hi => (hD i hi).1), h.apart⟩
set_option maxRecDepth 100000 in
theorem RwM.inner (h : RwM w k gs r v q l wc) {A : Option Addr} {n c B : Nat} {p : List UInt8} (ha : Byt wc B A n p) (hB : B ≤ wc.heap.size) (hn : n ≤ 300) :
    Calls Tryz.prog 33 #[.pointer none, .int .u64 1, .slice A n c] wc fun e w' => ∃ g, e = .returned (.pointer (some ⟨g, 0, none⟩)) ∧ RwM w k gs r v q (l ++ [(g, ⟨false, 1, p, 0, false, []⟩)]) w' ∧ RwM w k gs r v q l w' := by
  refine (h.nodes.inner_ (rest := []) h.below.size h.no none 0 1 n c B p (fun g q => (by cases q)) (fun i q => (by cases q)) ha hB (by omega) (fun i _ q => (by cases q))).mono ?_
  rintro e w' ⟨g, rfl, h1, h2, _⟩
  have hD : ∀ i : Nat, (none : Option Nat) = some i → w.heap.size ≤ i ∧ ¬ (v.ownBlock = some i ∨ i = q) := fun i q => (by cases q)
  exact ⟨g, rfl, h.on h2 hD h1, h.on h2 hD (h.nodes.kept h2 (fun i q => (by cases q)))⟩
set_option maxRecDepth 100000 in
theorem RwM.leaf (h : RwM w k gs r v q l wc) {A : Option Addr} {n c B : Nat} {p : List UInt8} (x : Int) (ha : Byt wc B A n p) (hB : B ≤ wc.heap.size) (hn : n ≤ 300) :
    Calls Tryz.prog 34 #[.pointer none, .int .u64 1, .slice A n c, .int .u64 x] wc fun e w' => ∃ g, e = .returned (.pointer (some ⟨g, 0, none⟩)) ∧ RwM w k gs r v q (l ++ [(g, ⟨true, 1, p, x, true, []⟩)]) w' := by
  refine (h.nodes.leaf_ (rest := []) h.below.size h.no none 0 1 x n c B p (fun g q => (by cases q)) (fun i q => (by cases q)) ha hB (by omega) (fun i _ q => (by cases q))).mono ?_
  rintro e w' ⟨g, rfl, h1, h2, _⟩
  have hD : ∀ i : Nat, (none : Option Nat) = some i → w.heap.size ≤ i ∧ ¬ (v.ownBlock = some i ∨ i = q) := fun i q => (by cases q)
  exact ⟨g, rfl, h.on h2 hD h1⟩
set_option maxRecDepth 100000 in
theorem RwM.setval (g : Nat) (x : Nd) (h : RwM w k gs r v q (l ++ [(g, x)]) wc) (y : Int) :
    Calls Tryz.prog 35 #[.pointer (some ⟨g, 0, none⟩), .int .u64 1, .int .u64 y] wc fun e w' => e = .returned (.int .i64 (closN x 1)) ∧ RwM w k gs r v q (l ++ [(g, nSetVal x 1 y)]) w' := by
  have hat : (l ++ [(g, x)])[l.length]? = some (g, x) := by rw [List.getElem?_append_right (Nat.le_refl _), Nat.sub_self]; rfl
  refine (h.nodes.setval hat h.below.size h.no 1 y).mono ?_
  rintro e w' ⟨rfl, h1, h2⟩
  rw [List.set_append_right _ _ (Nat.le_refl _), Nat.sub_self] at h1
  exact ⟨rfl, h.on h2 (fun i hi => hi) h1⟩
/-- The node is put behind the others. -/
theorem RwM.app (h : RwM w k gs r v q l wc) {W w2 : World} {v2 : Value} (g : Nat) (hW : Below wc.heap.size wc W) (hm : MineR w2 w.heap.size 32 1 v2 (k + 1) (gs.map ptrG ++ [ptrG g])) (hg : W.grownBy w2 v.ownBlock) (ho : v2.ownBlock = v.ownBlock ∨ v2.ownBlock = some W.heap.size) :
    RwM w (k + 1) (gs ++ [g]) r v2 q l w2 := by
  have hK := Kept.of_grown hg
  refine ⟨by rw [List.map_append]; exact hm, ?_, hK.blk (h.box.below hW h.box.lt) h.apart, ?_, fun e => ?_⟩
  · have h1 : Ns W w.heap.size (fun i => v2.ownBlock = some i ∨ v.ownBlock = some i ∨ i = q) l := (h.nodes.below hW).more fun i hi => by
      rcases hi with hi | hi
      · rcases ho with e | e
        · exact .inl (.inl (e ▸ hi))
        · rw [e] at hi; injection hi with hi; exact .inr (by omega)
      · exact .inl hi
    have h2 := h1.kept hK (fun i hi => .inr (.inr (.inl hi)))
    exact h2.more fun i hi => hi.elim (fun q => .inl (.inl q)) (fun q => .inl (.inr (.inr q)))
  · exact (h.below.trans (hW.mono h.below.size)).trans (hK.below (Nat.le_trans h.below.size hW.size) (fun i hi => (h.row.lt i hi).1))
  · rcases ho with q' | q'
    · exact h.apart (q' ▸ e)
    · rw [q'] at e
      injection e with e
      have := h.box.lt
      have := hW.size
      omega
set_option maxRecDepth 100000 in
/-- It is a kid of another one. -/
theorem RwM.kid (h : RwM w (k + 1) gs r v q (nodesL rs gs (stR rs k ++ [[]])) wc) (h0 : k ≠ 0) (z : Int) (hz : z = ((rs.getD k dR).b.toNat : Int)) :
    Calls Tryz.prog 36 #[.pointer (some ⟨gs.getD (parR rs k) 0, 0, none⟩), .int .u64 1, .int .u8 z, .pointer (some ⟨gs.getD k 0, 0, none⟩)] wc fun e w' => (∃ y, e = .returned (.int .i64 y)) ∧ RwM w (k + 1) gs r v q (nodesL rs gs (stR rs (k + 1))) w' := by
  have hpk : parR rs k < k := Nat.mod_lt _ (by omega)
  have hl : (stR rs k ++ [[]]).length = k + 1 := by rw [List.length_append, stR_len]; rfl
  refine (h.nodes.setkid (nodesL_at (by omega)) (nodesL_at (by omega)) h.below.size h.no 1 (rs.getD k dR).b z hz).mono ?_
  rintro e w' ⟨rfl, h1, h2⟩
  refine ⟨⟨_, rfl⟩, h.on h2 (fun _ hi => hi) ?_⟩
  rw [nodesL_kid rs gs k h0] at h1
  exact h1
theorem RwM.done (h : RwM w k gs r v q (nodesL rs gs (stR rs k)) wc) (hg : gs.length = k) : RwS w rs k v wc :=
  ⟨gs, hg, h.row, h.nodes.more fun _ hi => .inl (.inl hi), h.below⟩
theorem row_ptr {g n c j base : Nat} (h : MineR w base 32 1 (.slice (some ⟨g, 0, none⟩) n c) n (gs.map ptrG)) (hj : j < n) : w.cell? ⟨g, j, none⟩ = some (.pointer (some ⟨gs.getD j 0, 0, none⟩)) := by
  have hl : gs.length = n := by have := h.2.1; rwa [List.length_map] at this
  have hc : (gs.map ptrG)[j]? = some (ptrG (gs.getD j 0)) := by
    rw [List.getElem?_map, List.getD_eq_getElem?_getD, List.getElem?_eq_getElem (by omega)]
    rfl
  have e0 := World.ownsRow.cells h.1 (g := g) rfl (j * 1 + 0) _ (by rw [flatten_at h.2.2 hc (by omega)]; rfl)
  have z : (⟨g, 0, none⟩ : Addr).add (j * 1 + 0) = ⟨g, j, none⟩ := by
    unfold Addr.add
    split
    · rename_i q; rw [← show j = 0 by omega]
    · simp
  rwa [z] at e0
end

theorem still_drew {a w : World} (h : Still a w) : Still a w.drew := h.trans ⟨1, rfl⟩
set_option maxRecDepth 100000 in
set_option maxHeartbeats 2000000 in
theorem raws_any (A : Option Addr) (n c B : Nat) (rs : List Rw) (w : World) (h : Rzs w B A n rs) (hB : B ≤ w.heap.size) (hn : n ≤ 24) (h0 : 0 < n) (hp : ∀ r ∈ rs, r.part.length ≤ 300) :
    Calls Tryz.prog 29 #[.slice A n c] w fun e w' => ∃ gs : List Nat, gs.length = n ∧ e = .returned (.pointer (some ⟨gs.getD 0 0, 0, none⟩)) ∧ Ns w' w.heap.size (fun _ => False) (nodesL rs gs (stR rs n)) ∧ Below w.heap.size w w' := by
  have HA := Lib.hid (fun V (hV : Below w.heap.size w V) => (h.more hB).below hV)
  have HP := Lib.hid hp
  clear h hp
  go_enter Tryz.func29, Tryz.ntmps29
  go_wp2
  go_loopw [3, 9] (fun v i wr => ∃ k : Nat, k ≤ n ∧ i = .int .i64 k ∧ Hid (RwS w rs k v wr)) (fun _ i _ => n - (intOf i).toNat)
  case atStart => exact ⟨0, Nat.zero_le _, rfl, Lib.hid ⟨[], rfl, MineR.nil _ _ _ _, Ns.none_ _ _ _, Below.refl _ _⟩⟩
  case round =>
    obtain ⟨k, hk, rfl, HS⟩ := hrel
    obtain ⟨gs, g1, g2, g3, g4⟩ := HS.out
    obtain ⟨A1, cp1, rfl, hcp⟩ := MineR.slice g2
    by_cases h1 : k < n
    · obtain ⟨ad, r, rfl, hlt, e1, c0, c1, c2, c3, c4, c5, bp, hnc, hv0, hv1⟩ := (HA.out _ g4).at6 h1
      have hpl : r.n ≤ 300 := by have := HP.out r (List.mem_of_getElem? e1); have := bp.1; omega
      have HRD := Lib.hid (show rs.getD k dR = r by rw [List.getD_eq_getElem?_getD, e1]; rfl)
      have HBP := Lib.hid (fun V (hV : Below w.heap.size w V) => show Byt V w.heap.size r.A r.n r.part from by
        obtain ⟨ad', r', e', _, e1', _, _, _, _, _, _, bp', _⟩ := (HA.out V hV).at6 h1
        rw [e1] at e1'
        injection e1' with e1'
        rw [e1']
        exact bp')
      have M1 := Lib.hid (RwM.start (r := r) g2 g3 g4 68)
      have I1 := Lib.hid (M1.out.inner (c := r.c) (HBP.out _ M1.out.below) M1.out.below.size hpl)
      have G1 := Lib.hid g1
      unfold rwC at M1 I1
      clear e1 bp g1 g2 g3 HS
      go_upto_block 2 with fail
      (with_reducible refine I1.out.mono ?_)
      rintro e w2 ⟨g', rfl, m2, m2'⟩
      have M2 := Lib.hid m2
      have M2' := Lib.hid m2'
      have b20 := m2.box.cell 0
      have b21 := m2.box.cell 1
      have b22 := m2.box.cell 2
      have b23 := m2.box.cell 3
      simp only [rwC] at b20 b21 b22 b23
      clear m2 m2' I1 M1 c0 c1 c2 c3 c4 c5
      go_upto_block 2 with fail
      go_cut [6] (fun v6 wc => ∃ g, v6 = .pointer (some ⟨g, 0, none⟩) ∧ Hid (RwM w k gs r (.slice A1 k cp1) wr.heap.size (nodesL rs gs (stR rs k) ++ [(g, (nnR r).nd [])]) wc))
      case first =>
        cases hlf : r.leaf with
        | true =>
          have HLF := Lib.hid hlf
          rw [hlf] at b20
          have I3 := Lib.hid (M2'.out.leaf (c := r.c) r.val (HBP.out _ M2'.out.below) M2'.out.below.size hpl)
          have e3 : (⟨true, 1, r.part, r.val, true, []⟩ : Nd) = (nnR r).nd [] := by simp [nnR, hlf, Nn.nd]
          rw [e3] at I3
          clear hlf e3
          go_wp2_with fail
          (with_reducible refine I3.out.mono ?_)
          rintro e w3 ⟨g3, rfl, m3⟩
          have M3 := Lib.hid m3
          clear m3
          go_wp2_with fail
          go_meet
          exact ⟨g3, rfl, M3⟩
        | false =>
          rw [hlf] at b20
          cases hhs : r.has with
          | true =>
            rw [hhs] at b22
            have I3 := Lib.hid (M2.out.setval g' _ r.val)
            have e3 : nSetVal ⟨false, 1, r.part, 0, false, []⟩ 1 r.val = (nnR r).nd [] := by simp [nSetVal, mineB, nnR, hlf, hhs, Nn.nd]
            rw [e3] at I3
            clear hlf hhs e3
            go_wp2_with fail
            (with_reducible refine I3.out.mono ?_)
            rintro e w3 ⟨rfl, m3⟩
            have M3 := Lib.hid m3
            clear m3
            go_wp2_with fail
            go_meet
            exact ⟨g', rfl, M3⟩
          | false =>
            rw [hhs] at b22
            have e3 : (⟨false, 1, r.part, 0, false, []⟩ : Nd) = (nnR r).nd [] := by simp [nnR, hlf, hhs, Nn.nd]
            have M3 := Lib.hid M2.out
            rw [e3] at M3
            clear hlf hhs e3
            go_wp2_with fail
            go_meet
            exact ⟨g', rfl, M3⟩
      case rest =>
        obtain ⟨g, rfl, M3⟩ := hcut
        clear b20 b21 b22 b23 M2 M2'
        have hbs := M3.out.below.size
        have HY := Lib.hid (show ∀ (j : Nat) (u : Value), (ptrG g)[j]? = some u → (wc.alloc (.cells #[.pointer (some ⟨g, 0, none⟩)] 32)).cell? ((⟨wc.heap.size, 0, none⟩ : Addr).add j) = some u from lit_cells (Blk.new wc 32 #[.pointer (some ⟨g, 0, none⟩)]))
        by_cases hk0 : k = 0
        · have HSN := Lib.hid (fun g => show nodesL rs gs (stR rs k) ++ [(g, (nnR r).nd [])] = nodesL rs (gs ++ [g]) (stR rs (k + 1)) from by
            have e2 : stR rs (k + 1) = stR rs k ++ [[]] := by
              conv => lhs; unfold stR
              rw [if_pos (.inl hk0)]
            rw [e2, ← nodesL_snoc rs gs k g G1.out, HRD.out])
          go_wp2_with (at_builtin
                       refine wpList_append_rws (wc.alloc (.cells #[.pointer (some ⟨g, 0, none⟩)] 32)) rfl (.tmp 34) (.tmp 36) _ rfl Tryz.underlying114 info_nodep (by rfl) (by decide) w.heap.size (.slice A1 k cp1) k (gs.map ptrG) rfl (M3.out.row.alloc _) ⟨wc.heap.size, 0, none⟩ 1 (ptrG g) rfl rfl HY.out (by intro u hu; simp at hu; rw [hu]; rfl) (by omega) (by unfold maxLen; omega) (by simp; omega) ?_
                       intro v2 w2 hm2 hg2 ho2
                       have M4 := Lib.hid (M3.out.app g ((Below.refl _ _).alloc (Nat.le_refl _) _) hm2 hg2 ho2)
                       obtain ⟨A2, cp2, rfl, _⟩ := MineR.slice hm2
                       obtain ⟨g2, rfl, _⟩ := MineR.form hm2 (by omega)
                       clear hm2 hg2 ho2)
          rw [HSN.out g] at M4
          have R4 := Lib.hid (M4.out.done (by rw [List.length_append, G1.out]; rfl))
          clear M4 HSN M3
          have R5 : Hid (RwS w rs (k + 1) (.slice (some ⟨g2, 0, none⟩) 1 cp2) w2) := by
            have e1 : k + 1 = 1 := by omega
            rw [e1] at R4 ⊢
            exact R4
          go_wp2
          exact ⟨⟨k + 1, by omega, by go_num, R5⟩, by simp [intOf]; omega⟩
        · have hpk : parR rs k < k := Nat.mod_lt _ (by omega)
          obtain ⟨j, hj⟩ : ∃ j, parR rs k = j := ⟨_, rfl⟩
          have hjv : (r.up.toNat : Int).tmod (k : Int) = (j : Int) := by rw [← hj]; unfold parR; rw [HRD.out]; rfl
          have HSN := Lib.hid (fun g => show nodesL rs gs (stR rs k) ++ [(g, (nnR r).nd [])] = nodesL rs (gs ++ [g]) (stR rs k ++ [[]]) from by rw [← nodesL_snoc rs gs k g G1.out, HRD.out])
          have HGK := Lib.hid (fun g => show (gs ++ [g]).getD k 0 = g from by
            rw [List.getD_eq_getElem?_getD, List.getElem?_append_right (by rw [G1.out]; exact Nat.le_refl _), G1.out, Nat.sub_self]
            rfl)
          rw [hj] at hpk
          have HJ := Lib.hid hj
          clear hj
          go_wp2_with (at_builtin
                       refine wpList_append_rws (wc.alloc (.cells #[.pointer (some ⟨g, 0, none⟩)] 32)) rfl (.tmp 34) (.tmp 36) _ rfl Tryz.underlying114 info_nodep (by rfl) (by decide) w.heap.size (.slice A1 k cp1) k (gs.map ptrG) rfl (M3.out.row.alloc _) ⟨wc.heap.size, 0, none⟩ 1 (ptrG g) rfl rfl HY.out (by intro u hu; simp at hu; rw [hu]; rfl) (by omega) (by unfold maxLen; omega) (by simp; omega) ?_
                       intro v2 w2 hm2 hg2 ho2
                       have M4 := Lib.hid (M3.out.app g ((Below.refl _ _).alloc (Nat.le_refl _) _) hm2 hg2 ho2)
                       obtain ⟨A2, cp2, rfl, _⟩ := MineR.slice hm2
                       obtain ⟨g2, rfl, _⟩ := MineR.form hm2 (by omega)
                       clear hm2 hg2 ho2)
          rw [HSN.out g] at M4
          have K4 := Lib.hid (fun V (hV : Still w2 V) => RwM.kid (RwM.on M4.out (D := fun _ => False) (Kept.of_below (hV.below w2.heap.size)) (fun _ q => q.elim) (M4.out.nodes.still hV)) hk0 _ (show ((r.b.toNat : Nat) : Int) = _ from by rw [HRD.out]))
          rw [HGK.out g, HJ.out] at K4
          have b4 := M4.out.box.cell 4
          have b5 := M4.out.box.cell 5
          simp only [rwC] at b4 b5
          have b6 := row_ptr M4.out.row (j := j) (by omega)
          obtain ⟨gp, hgp⟩ : ∃ gp, (gs ++ [g]).getD j 0 = gp := ⟨_, rfl⟩
          rw [hgp] at K4 b6
          have HGP := Lib.hid hgp
          clear hgp
          clear HSN M3
          go_wp2_with fail
          have hu8 : (r.up.toNat : Int) ≤ 255 := by have := r.up.toNat_lt; omega
          have hj0 : (0 : Int) ≤ (j : Int) := by omega
          have hj1 : (j : Int) < ((k + 1 : Nat) : Int) := by omega
          have hj2 : j < k + 1 := by omega
          have hj3 : (j : Int) < (k : Int) + 1 := by omega
          have hj4 : j ≤ k := by omega
          have hkn0 : ¬ (k : Int) = 0 := by omega
          have hw0 : IntKind.i64.wrap (r.up.toNat : Int) = (r.up.toNat : Int) := IntWalk.i64_in _ (by omega)
          have hw1 : IntKind.i64.wrap ((r.up.toNat : Int).tmod (k : Int)) = (j : Int) := by rw [hjv]; exact IntWalk.i64_in _ (by omega)
          go_region_held3 (fun w' => w'.cell? ⟨wr.heap.size, 4, none⟩ = some (.int .u8 (r.up.toNat : Int)) ∧ w'.cell? ⟨wr.heap.size, 5, none⟩ = some (.int .u8 (r.b.toNat : Int)) ∧ w'.cell? ⟨g2, j, none⟩ = some (.pointer (some ⟨gp, 0, none⟩)))
            (first | go_keep | exact ⟨M5.out.box.cell 4, M5.out.box.cell 5, HGP.out ▸ row_ptr M5.out.row (by omega)⟩)
            ((go_at_call 36; (with_reducible refine (K4.out _ (by repeat (first | exact Still.refl _ | exact Still.drewN _ 1 | apply Still.step | apply still_drew))).mono ?_); rintro e w5 ⟨⟨y, rfl⟩, m5⟩; have M5 := Lib.hid m5; clear m5))
          have R4 := Lib.hid (M5.out.done (by rw [List.length_append, G1.out]; rfl))
          go_wp2
          exact ⟨⟨k + 1, by omega, by go_num, R4⟩, by simp [intOf]; omega⟩
    · obtain rfl : k = n := by omega
      obtain ⟨ga, rfl, _⟩ := MineR.form g2 h0
      have b0 := row_ptr g2 (j := 0) h0
      have HF := Lib.hid (show Ns wr w.heap.size (fun _ => False) (nodesL rs gs (stR rs k)) from g3.more fun _ q => q.elim)
      have HB4 := Lib.hid g4
      have HG1 := Lib.hid g1
      clear g1 g2 g3 g4 HS
      go_wp2
      go_ret
      exact ⟨gs, HG1.out, rfl, HF.out, HB4.out⟩
end Go.Proofs.YtcfokkojoppmkaaGreatDoor
