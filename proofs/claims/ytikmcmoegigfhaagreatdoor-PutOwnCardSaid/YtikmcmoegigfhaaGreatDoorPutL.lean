/-
  Layer 15's own far, tree, as; the document's pairs with one more; who puts into another one's tree.
-/
import Derived.Test.YtikmcmoegigfhaaGreatDoorPutT
import Derived.Test.YtikmcmoegigfhaaGreatDoorPutC
import Derived.Test.YtikmcmoegigfhaaGreatDoorPutA
import Derived.Test.YtikmcmoegigfhaaGreatDoorPRow
import Derived.Test.YtikmcmoegigfhaaGreatDoorCnLaw
import Derived.Test.YtikmcmoegigfhaaGreatDoorCnAlive
import Derived.Test.YtikmcmoegigfhaaGreatDoorShape
import Derived.Test.YtikmcmoegigfhaaGreatDoorSort
namespace Go.Proofs.YtikmcmoegigfhaaGreatDoor
open Go.RowKit Go.Shelf
attribute [local go_sem] Oper.semAt_some

theorem run_append_zero {P : Program} (w : World) (base : Nat) (t ty e : TypeId) (i : TypeInfo) (ht : P.underlying t = some (.slice e)) (hi : P.info? e = some i)
    (v : Value) (n k : Nat) (xs : List Value) (hown : w.ownsRow base e k v n xs) (c : Nat) : (Builtin.append_ #[t, t] ty #[v, .slice none 0 c]).run P w = .ok v w := by
  rcases hown.2 with ⟨rfl, rfl⟩ | ⟨g, cap, cur, rfl, _, _, hnc, _⟩
  · simp [Builtin.append_, run_underlying ht, sizeOf, typeInfo, hi, Builtin.lenOf, Builtin.firstCells]
  · simp [Builtin.append_, run_underlying ht, sizeOf, typeInfo, hi, Builtin.lenOf, Builtin.firstCells, hnc, storeCells]
/-- append of some elements that lie in memory: what is left. -/
theorem run_append_more {P : Program} (w : World) {t ty e : TypeId} {z : Value} {k bytes : Nat} (ht : P.underlying t = some (.slice e)) (hi : (P.info? e).map (fun i => (i.zero, i.size, i.bytes)) = some (some z, k, bytes)) (hzs : z.cells.size = k) (hk : 0 < k)
    (base : Nat) (v : Value) (n : Nat) (css : List (List Value)) (hown : MineR w base e k v n css) (B : Nat) (A : Option Addr) (m c : Nat) (yss : List (List Value)) (hy : Rws w B A m k yss) (h1 : ∀ y ∈ yss, ∀ u ∈ y, u.oneCell' = true)
    (hbytes : (n + m) * bytes ≤ 140737488355328) (h63 : n + m ≤ maxLen) (hbase : base ≤ w.heap.size) :
    ∃ v' w', (Builtin.append_ #[t, t] ty #[v, .slice A m c]).run P w = .ok v' w' ∧ MineR w' base e k v' (n + m) (css ++ yss) ∧ w.grownBy w' v.ownBlock ∧ (v'.ownBlock = v.ownBlock ∨ v'.ownBlock = some w.heap.size) := by
  obtain ⟨i0, hi0, hz0, hz1, hz2⟩ := info_parts hi
  rcases A with _ | ad
  · have hm : m = 0 := by
      rcases Nat.eq_zero_or_pos m with h0 | h0
      · exact h0
      · obtain ⟨ad, h, _⟩ := hy.2.2.2 h0; cases h
    subst hm
    have : yss = [] := List.eq_nil_of_length_eq_zero hy.1
    subst this
    exact ⟨v, w, run_append_zero w base t ty e i0 ht hi0 v n k _ hown.1 c, by simpa using hown, World.grownBy.refl w _, .inl rfl⟩
  · have hcells : ∀ j u, yss.flatten[j]? = some u → w.cell? (ad.add j) = some u := by
      intro j u hu
      have hlt := (List.getElem?_eq_some_iff.1 hu).1
      rw [flatten_len hy.2.2.1, hy.1] at hlt
      have hdm := Nat.div_add_mod j k
      have hj : j / k < m := (Nat.div_lt_iff_lt_mul hk).2 hlt
      have hmod := Nat.mod_lt j hk
      obtain ⟨ad', c', e', _, hc', hcl, hcc⟩ := hy.at_ hj
      injection e' with e'
      subst e'
      have hjj : j = j / k * k + j % k := by rw [Nat.mul_comm]; exact hdm.symm
      rw [hjj] at hu ⊢
      rw [flatten_at hy.2.2.1 hc' hmod] at hu
      exact hcc _ _ hu
    obtain ⟨v', w', hrun, h2, h3, _, h5⟩ := run_append_own_at (P := P) w base t ty e i0 z k bytes ht hi0 hz0 hz1 hz2 hzs hk v n css.flatten hown.1 ad m c yss.flatten (by rw [flatten_len hy.2.2.1, hy.1]) hcells
      (fun u hu => by obtain ⟨y, hy1, hy2⟩ := List.mem_flatten.1 hu; exact h1 y hy1 u hy2) h63 hbytes hbase
    refine ⟨v', w', hrun, ⟨by rw [List.flatten_append]; exact h2, by simp [hown.2.1, hy.1], fun d hd => ?_⟩, h3, h5⟩
    rcases List.mem_append.1 hd with hd | hd
    · exact hown.2.2 d hd
    · exact hy.2.2.1 d hd
theorem wpList_append_more {P : Program} (w : World) {ops : Array Oper} {rest : List Oper} {o : Oper} {a : Act} {Q : Exit → Act → World → Prop} (hgd : o.guard = none) (s x : Operand) (t : TypeId)
    (ho : o.op = .call { callee := .builtin .append, args := #[s, x], argTypes := #[t, t] }) {e : TypeId} {z : Value} {k bytes : Nat} (ht : P.underlying t = some (.slice e)) (hi : (P.info? e).map (fun i => (i.zero, i.size, i.bytes)) = some (some z, k, bytes)) (hzs : z.cells.size = k) (hk : 0 < k)
    (base : Nat) (v : Value) (n : Nat) (css : List (List Value)) (hs : a.eval s = v) (hown : MineR w base e k v n css) (B : Nat) (A : Option Addr) (m c : Nat) (yss : List (List Value)) (hx : a.eval x = .slice A m c) (hy : Rws w B A m k yss) (h1 : ∀ y ∈ yss, ∀ u ∈ y, u.oneCell' = true)
    (hbytes : (n + m) * bytes ≤ 140737488355328) (h63 : n + m ≤ maxLen) (hbase : base ≤ w.heap.size)
    (h : ∀ v' w', MineR w' base e k v' (n + m) (css ++ yss) → w.grownBy w' v.ownBlock → (v'.ownBlock = v.ownBlock ∨ v'.ownBlock = some w.heap.size) → wpList P ops Q rest (a.put o.dst v') w') : wpList P ops Q (o :: rest) a w := by
  refine wpList_plain hgd fun _ hK => ?_
  obtain ⟨v', w', hrun, h2, h3, h4⟩ := run_append_more (P := P) w (ty := o.type) ht hi hzs hk base v n css hown B A m c yss hy h1 hbytes h63 hbase
  unfold Oper.wp execOp
  simp only [ho, resolve, invoke, builtin, Sem.run_bind, Sem.run_pure, Result.andThen_ok, List.map_toArray, List.map_cons, List.map_nil, hs, hx, hrun]
  exact hK _ _ (h v' w' h2 h3 h4)
set_option maxRecDepth 100000 in
set_option maxHeartbeats 1000000 in
theorem pfar_any (A : Option Addr) (n c B many : Nat) (ps : List PV) (w : World) (ha : Prs w B A n ps) (hB : B ≤ w.heap.size) (hm : many ≤ 1000) :
    Calls Tryz.prog 7 #[.slice A n c, .int .i64 (many : Int)] w fun e w' => e = .returned (.bool (farP ps many)) ∧ Below w.heap.size w w' := by
  have HA := Lib.hid (fun V (h : Below w.heap.size w V) => (ha.more hB).below h)
  have HL := Lib.hid ha.1
  have hn : n ≤ maxLen := ha.2.1
  have hn' : n ≤ 9223372036854775807 := by unfold maxLen at hn; omega
  clear ha hn
  go_enter Tryz.func7, Tryz.ntmps7
  by_cases hmn : many < n
  · have HF := Lib.hid (show farP ps many = true from by unfold farP; rw [HL.out, decide_eq_true hmn]; rfl)
    go_wp2
    go_ret
    exact ⟨ret_bool HF.out.symm, Below.refl _ _⟩
  · go_wp2
    go_loopw [13] (fun i wr => ∃ k : Nat, k ≤ n ∧ i = .int .i64 k ∧ Hid (∀ j p, j < k → ps[j]? = some p → p.key.length ≤ 300) ∧ Hid (Below w.heap.size w wr)) (fun i _ => n - (intOf i).toNat)
    case atStart => exact ⟨0, Nat.zero_le _, rfl, Lib.hid (fun j p hj => by omega), Lib.hid (Below.refl _ _)⟩
    case round =>
      obtain ⟨k, hk, rfl, HS, HB⟩ := hrel
      by_cases h1 : k < n
      · obtain ⟨ad, p, rfl, hlt, e1, c1, c2, b1⟩ := (HA.out _ HB.out).at_ h1
        have hpn : p.n = p.key.length := b1.1.symm
        have hpm : p.n ≤ 9223372036854775807 := by have := b1.2.1; unfold maxLen at this; omega
        have HE1 := Lib.hid e1
        have HPN := Lib.hid hpn
        rw [← add_of_add] at c2
        have c2' : wr.cell? ⟨(ad.add (k * 2)).block, (ad.add (k * 2)).off + 1, none⟩ = some (.int .u64 p.val) := c2
        have HB2 := Lib.hid (HB.out.alloc HB.out.size (.cells #[.slice p.A p.n p.c, .int .u64 p.val] 26))
        clear b1 e1 hpn
        by_cases hb : 300 < p.n
        · have HF := Lib.hid (show farP ps many = true from by
            unfold farP
            rw [Bool.or_eq_true, List.any_eq_true]
            exact .inr ⟨p, List.mem_of_getElem? HE1.out, decide_eq_true (by have := HPN.out; omega)⟩)
          go_wp2
          go_ret
          exact ⟨ret_bool HF.out.symm, HB2.out⟩
        · have HS1 := Lib.hid (show ∀ j p', j < k + 1 → ps[j]? = some p' → p'.key.length ≤ 300 from fun j p' hj hp' => by
            rcases Nat.lt_or_ge j k with h | h
            · exact HS.out j p' h hp'
            · have : j = k := by omega
              subst this
              rw [HE1.out] at hp'
              injection hp' with hp'
              subst hp'
              have := HPN.out
              omega)
          go_wp2
          exact ⟨⟨k + 1, by omega, by go_num, HS1, HB2⟩, by simp [intOf]; omega⟩
      · have HF := Lib.hid (show farP ps many = false from by
          unfold farP
          rw [HL.out, decide_eq_false hmn, Bool.false_or, Bool.eq_false_iff]
          intro h
          obtain ⟨p, hp, h2⟩ := List.any_eq_true.1 h
          obtain ⟨j, hj⟩ := List.mem_iff_getElem?.1 hp
          have h3 := HS.out j p (by have := (List.getElem?_eq_some_iff.1 hj).1; have := HL.out; omega) hj
          simp only [decide_eq_true_eq] at h2
          omega)
        go_wp2
        go_ret
        exact ⟨ret_bool HF.out.symm, HB.out⟩

theorem farP_no {ps : List PV} {many : Nat} (h : farP ps many = false) : ps.length ≤ many ∧ ∀ p ∈ ps, p.key.length ≤ 300 := by
  unfold farP at h
  rw [Bool.or_eq_false_iff] at h
  obtain ⟨h1, h2⟩ := h
  refine ⟨by have := of_decide_eq_false h1; omega, fun p hp => ?_⟩
  have := List.any_eq_false.1 h2 p hp
  simp at this
  omega
theorem rsn_chk2 {ps : List PV} (h : Rsn ps) (hk : ∀ p ∈ ps, p.key.length ≤ 600) : chkV (ps.map PV.key) = 0 := by
  unfold chkV
  rw [if_neg, if_pos (rsn_keys h)]
  intro hb
  unfold bigB at hb
  obtain ⟨k, hk1, hk2⟩ := List.any_eq_true.1 hb
  obtain ⟨p, hp, rfl⟩ := List.mem_map.1 hk1
  have := hk p hp
  simp at hk2
  omega
/-- What layer 15's tree leaves: all of it is the owner's. -/
def TrPostO (o : Int) (w : World) (t : Option (Nn × Fo)) (e : Ending) (w' : World) : Prop :=
  ∃ p, e = .returned (.pointer p) ∧ OTow w' o (fun _ => False) t p (fun i => w.heap.size ≤ i) ∧ Below w.heap.size w w'
theorem OTow.mono {w : World} {o : Int} {S D D' : Nat → Prop} {t : Option (Nn × Fo)} {p : Option Addr} (h : OTow w o S t p D) (hd : ∀ i, D i → D' i) : OTow w o S t p D' := by
  cases t with
  | none => exact h
  | some T =>
    obtain ⟨g, e, h1⟩ := h
    exact ⟨g, e, h1.mono hd⟩
set_option maxRecDepth 100000 in
set_option maxHeartbeats 1000000 in
theorem ptree_any {o : Int} (ho : 1 ≤ o) (A : Option Addr) (n c B : Nat) (ps : List PV) (w : World) (ha : Prs w B A n ps) (hk : Kps w B ps) (hB : B ≤ w.heap.size) (hn : n ≤ 300) (hr : Rsn ps) (hl : ∀ p ∈ ps, p.key.length ≤ 300) :
    Calls Tryz.prog 10 #[.slice A n c, .int .u64 o] w (TrPostO o w (bTr o 301 (rel 0 ps))) := by
  have htn : (otn (bTr o 301 (rel 0 ps)) : Int) ≤ 9223372036854775807 := by
    have h1 := bTr_tn o 301 (rel 0 ps)
    rw [rel_len] at h1
    have h2 := ha.1
    have h3 : 301 * ps.length ≤ 301 * 300 := Nat.mul_le_mul_left _ (by omega)
    omega
  have HCB := Lib.hid (fun (V : World) (A1 : Option Addr) (cp : Nat) (hcp : n ≤ cp) (hV : Below w.heap.size w V) (hp : Prs V V.heap.size A1 n ps) =>
    have hkv := (hk.more hB).below hV
    show Calls Tryz.prog 22 #[.pointer none, .int .u64 o, .slice A1 n cp] V (CoPost o V none [] 0 (bTr o 301 (rel 0 ps))) from
    (cbuildo_any ho 301 n cp V.heap.size A1 ps none [] 0 V
      ⟨fun W hW => hp.below (hW.below (Nat.le_refl _) (fun i q => by cases q)), fun p hp i hi => by simp, fun p hp => (hkv p hp).2⟩ (Nat.le_refl _) (by omega) hcp (fun p hp => by have := hl p hp; omega) (fun g q => by cases q) (by rw [Int.zero_add]; exact htn)).mono fun e w' h => h.1 (rsn_chk2 hr (fun p hp => by have := hl p hp; omega)))
  have HA := Lib.hid (fun V (h : Below w.heap.size w V) => (ha.more hB).below h)
  have HK := Lib.hid (fun V (h : Below w.heap.size w V) => ((hk.more hB).below h).more h.size)
  have HN := Lib.hid ha.1
  clear ha hk hr hl htn
  go_enter Tryz.func10, Tryz.ntmps10
  go_wp2
  go_loopw [5, 12] (fun v i wr => ∃ k : Nat, k ≤ n ∧ i = .int .i64 k ∧ Hid (PRow wr w.heap.size 59 v k (ps.take k)) ∧ Hid (Below w.heap.size w wr)) (fun _ i _ => n - (intOf i).toNat)
  case atStart => exact ⟨0, Nat.zero_le _, rfl, Lib.hid (MineR.nil _ _ _ _), Lib.hid (Below.refl _ _)⟩
  case round =>
    obtain ⟨k, hk, rfl, HR, HB⟩ := hrel
    by_cases h1 : k < n
    · obtain ⟨ad, p, rfl, hlt, e1, c1, c2, _⟩ := (HA.out _ HB.out).at_ h1
      have HV := Lib.hid e1
      have hsz := HB.out.size
      rw [← add_of_add] at c2
      have c2' : wr.cell? ⟨(ad.add (k * 2)).block, (ad.add (k * 2)).off + 1, none⟩ = some (.int .u64 p.val) := c2
      obtain ⟨A1, cp1, rfl, _⟩ := MineR.slice HR.out
      have HM := Lib.hid (fun (o1 o2 : Obj) => (MineR.alloc HR.out o1).alloc o2)
      have HS := Lib.hid (fun (o1 o2 : Obj) => show Below w.heap.size w ((wr.alloc o1).alloc o2) from (HB.out.alloc HB.out.size _).alloc (by have := HB.out.size; simp; omega) _)
      have HY := Lib.hid (show ∀ (j : Nat) (u : Value), (pvc p)[j]? = some u → ((wr.alloc (.cells #[.slice p.A p.n p.c, .int .u64 p.val] 26)).alloc (.cells #[.slice p.A p.n p.c, .int .u64 p.val] 59)).cell? ((⟨wr.heap.size + 1, 0, none⟩ : Addr).add j) = some u from by
        have := Blk.new (wr.alloc (.cells #[.slice p.A p.n p.c, .int .u64 p.val] 26)) 59 #[.slice p.A p.n p.c, .int .u64 p.val]
        rw [World.size_alloc] at this
        exact pair_cells this)
      clear c2 e1
      go_wp2_with (at_builtin
                   refine wpList_append_rws ((wr.alloc (.cells #[.slice p.A p.n p.c, .int .u64 p.val] 26)).alloc (.cells #[.slice p.A p.n p.c, .int .u64 p.val] 59)) rfl (.tmp 16) (.tmp 18) _ rfl Tryz.underlying58 info_pair (by rfl) (by decide) w.heap.size (.slice A1 k cp1) k ((ps.take k).map pvc) rfl (HM.out _ _) ⟨wr.heap.size + 1, 0, none⟩ 1 (pvc p) rfl rfl HY.out (pair_one p) (by omega) (by unfold maxLen; omega) (by simp; omega) ?_
                   intro v2 w2 hm2 hg2 _
                   have M2 := Lib.hid hm2
                   have C2 := Lib.hid (below_grown (HS.out _ _) (HM.out _ _) hg2 (Nat.le_refl _) (by simp; omega))
                   clear hm2 hg2)
      go_wp2
      exact ⟨⟨k + 1, by omega, by go_num, Lib.hid (show MineR _ _ _ 2 _ _ ((ps.take (k + 1)).map pvc) from by rw [← take_pv HV.out]; exact M2.out), C2⟩, by simp [intOf]; omega⟩
    · obtain rfl : k = n := by omega
      obtain ⟨A1, cp1, rfl, hc1⟩ := MineR.slice HR.out
      have hps : ps.take k = ps := List.take_of_length_le (by rw [HN.out]; exact Nat.le_refl _)
      have HP := Lib.hid (show Prs wr wr.heap.size A1 k ps from by
        have h2 := HR.out
        rw [hps] at h2
        exact PRow.prs h2 (HK.out _ HB.out))
      have HC := Lib.hid (HCB.out wr A1 cp1 hc1 HB.out HP.out)
      clear hps HCB
      go_wp2_with fail
      (with_reducible refine HC.out.mono ?_)
      rintro e w5 ⟨p, rfl, t5, k5, _⟩
      have T5 := Lib.hid (t5.mono (D' := fun i => w.heap.size ≤ i) (fun i q => Nat.le_trans HB.out.size q))
      have B5 := Lib.hid (HB.out.trans (k5.below HB.out.size (fun i q => by cases q)))
      clear t5 k5 HC
      go_wp2_with fail
      go_ret
      exact ⟨p, rfl, T5.out, B5.out⟩
/-- Who owns none of a tree's nodes puts into it: it stays. -/
def PutOth (o v : Int) (w : World) (S : Nat → Prop) (t : Option (Nn × Fo)) (l : List UInt8) (e : Ending) (w' : World) : Prop :=
  ∃ u, e = .returned (.tuple #[.pointer (some ⟨u, 0, none⟩), .int .i64 0]) ∧ OTre w' (fun i => S i ∨ (w.heap.size ≤ i ∧ i < w'.heap.size)) (some (oputs o v t l)) (some ⟨u, 0, none⟩) ∧ Below w.heap.size w w'
theorem OTow.of_no {w : World} {o : Int} {S D : Nat → Prop} {t : Option (Nn × Fo)} {p : Option Addr} (h : OTre w S t p) (hno : oall (fun q => q ≠ o) t) : OTow w o S t p D := by
  cases t with
  | none => exact h
  | some T =>
    obtain ⟨g, e, h1⟩ := h
    exact ⟨g, e, TOw.of_no hno.1 (Fo.all_no hno.2) h1⟩
set_option maxRecDepth 100000 in
theorem put_other {o v : Int} {t : Option (Nn × Fo)} {p A : Option Addr} {n c B : Nat} {l : List UInt8} {S : Nat → Prop} {w : World} (ho : 1 ≤ o)
    (ht : OTre w S t p) (hS : ∀ i, S i → i < w.heap.size) (hno : oall (fun q => q ≠ o) t) (hs : osrt t) (hw : owfB t) (hky : Byt w B A n l) (hB : B ≤ w.heap.size) (hnc : n ≤ c) (hn : n ≤ 65535) :
    Calls Tryz.prog 11 #[.pointer p, .slice A n c, .int .u64 v, .int .u64 o, .pointer none] w (PutOth o v w S t l) := by
  have hj : omx o t l ≤ 65540 := by
    have h1 := omx_le o t l
    have h2 := oway_le o t l 0
    have h3 := ogo_len t l 0
    have h4 := hky.1
    omega
  have hp : Pre w o S (fun _ => False) none [] 0 (omx o t l) := ⟨ho, fun i hi => ⟨fun q => q, hS i hi⟩, fun g q => (by cases q), fun i q => (by cases q), by omega⟩
  refine (put_any (m := none) (rest := []) (cnt := 0) (D := fun _ => False) (OTow.of_no ht hno) hs hw hp (fun V hk => (hky.below ((hk.below (Nat.le_refl _) (fun g q => q.elim (fun z => z.elim) (fun z => by cases z))).mono hB)).more hB) (fun i _ q => by cases q) hnc hn).mono ?_
  rintro e w' ⟨u, D', j, rfl, h1, _⟩
  refine ⟨u, rfl, ⟨u, rfl, h1.tow.tre.there.mono (fun i q => ?_)⟩, h1.kept.below (Nat.le_refl _) (fun g q => q.elim (fun z => z.elim) (fun z => by cases z))⟩
  rcases q.1 with z | z
  · exact .inl z
  · exact .inr ⟨(h1.sub i z).elim (fun y => y.elim) id, q.2⟩
set_option maxRecDepth 100000 in
/-- Whether a tree is the canonical one of pairs. -/
theorem pas_any {t : Option (Nn × Fo)} {p A : Option Addr} {n c B : Nat} {ps : List PV} {w : World} (htb : Tb w) (ht : OTre w (· < w.heap.size) t p) (ha : Prs w B A n ps) (hk : Kps w B ps) (hB : B ≤ w.heap.size) (hn : n ≤ 300) (hnc : n ≤ c) (hr : Rsn ps) (hl : ∀ p ∈ ps, p.key.length ≤ 600) (hv : ∀ p ∈ ps, 0 ≤ p.val ∧ p.val ≤ 18446744073709551615) (hc : OCan ps t) :
    Calls Tryz.prog 12 #[.pointer p, .slice A n c] w fun e w' => e = .returned (.bool true) ∧ Below w.heap.size w w' := by
  have hlen := ha.1
  have hO := hc.o hl (by omega) hv
  have hO2 := (bTr_ocan 1 hr 601 (fun p hp => by have := hl p hp; omega)).1.o hl (by omega) hv
  have hsh := hc.sh 601 (fun p hp => by have := hl p hp; omega)
  have hle : 0 < w.heap.size := htb.lt
  obtain ⟨s, hs⟩ : ∃ s, bstr (oshL t) = s := ⟨_, rfl⟩
  have H1 := shape_any t p w.heap.size w ht hO.ok htb hle (Nat.le_refl _) (by have := hO.sh; omega)
  have H2 := Lib.hid (fun (V : World) (hb : Below w.heap.size w V) => rBuild_any 601 n c B A ps V (ha.below (hb.mono hB)) (hk.below (hb.mono hB)) (Nat.le_trans hB hb.size) (by omega) hnc (fun p hp => by have := hl p hp; omega) (rsn_rel hr))
  have H3 := Lib.hid (fun (V : World) (cs : List Value) (h : ODno V (bTr 1 601 (rel 0 ps)) cs) => show Calls Tryz.prog 25 #[.agg cs.toArray] V fun e w' => e = .returned (.string s) ∧ Below V.heap.size V w' from by
    have h1 := rshape_any _ V cs h hO2.lf hO2.ok hO2.sh
    rwa [hsh, hs] at h1)
  rw [hs] at H1
  have H1 := Lib.hid H1
  clear htb ht ha hk hr hl hv hc hO hO2 hsh hs hle
  go_enter Tryz.func12, Tryz.ntmps12
  go_wp2_with fail
  (with_reducible refine H1.out.mono ?_)
  rintro e w1 ⟨rfl, b1⟩
  have B1 := Lib.hid b1
  have H2' := Lib.hid (H2.out w1 b1)
  clear b1 H1 H2
  go_wp2_with fail
  (with_reducible refine H2'.out.mono ?_)
  rintro e w2 ⟨cs, rfl, h2, b2⟩
  have B2 := Lib.hid (B1.out.trans (b2.mono B1.out.size))
  have H3' := Lib.hid (H3.out w2 cs h2)
  clear b2 h2 H2' H3
  go_wp2_with fail
  (with_reducible refine H3'.out.mono ?_)
  rintro e w3 ⟨rfl, b3⟩
  have B3 := Lib.hid (B2.out.trans (b3.mono B2.out.size))
  clear b3 H3'
  have hbe : (s.toList == s.toList) = true := beq_self_eq_true _
  go_wp2_with fail
  go_ret
  exact ⟨rfl, B3.out⟩
theorem pvc_ones (qs : List PV) : ∀ d ∈ qs.map pvc, ∀ u ∈ d, u.oneCell' = true := fun d hd u hu => by
  obtain ⟨p, _, rfl⟩ := List.mem_map.1 hd
  exact pair_one p u hu
set_option maxRecDepth 100000 in
set_option maxHeartbeats 1000000 in
theorem rput_any (A A' : Option Addr) (n c n' c' B : Nat) (ps : List PV) (key : List UInt8) (v : Int) (w : World) (ha : Prs w B A n ps) (hk : Kps w B ps) (hB : B ≤ w.heap.size) (hn : n ≤ 300) (hb : Byt w B A' n' key) (hnc : n' ≤ c') :
    Calls Tryz.prog 13 #[.slice A n c, .slice A' n' c', .int .u64 v] w fun e w' => ∃ A2 n2 c2, e = .returned (.slice A2 n2 c2) ∧ n2 ≤ c2 ∧ Prs w' w'.heap.size A2 n2 (sortS (ps ++ [⟨A', n', c', key, v⟩])) ∧ Below w.heap.size w w' := by
  have HR := Lib.hid ha.rws
  have HKP := Lib.hid (fun (V : World) (h : Below w.heap.size w V) => show Kps V V.heap.size (ps ++ [⟨A', n', c', key, v⟩]) from fun p hp => by
    rcases List.mem_append.1 hp with hp | hp
    · exact ((hk.more hB).below h |>.more h.size) p hp
    · obtain rfl := List.mem_singleton.1 hp
      exact ⟨((hb.more hB).below h).more h.size, hnc⟩)
  have HPV := Lib.hid (pvc_ones ps)
  have HCL := Lib.hid (fun (V : World) => show ∀ (j : Nat) (u : Value), (pvc ⟨A', n', c', key, v⟩)[j]? = some u → (V.alloc (.cells #[.slice A' n' c', .int .u64 v] 26)).cell? ((⟨V.heap.size, 0, none⟩ : Addr).add j) = some u from
    pair_cells (p := ⟨A', n', c', key, v⟩) (Blk.new V 26 #[.slice A' n' c', .int .u64 v]))
  clear ha hk hb hnc
  go_enter Tryz.func13, Tryz.ntmps13
  go_wp2_with (first
    | (at_builtin
       refine wpList_append_more w rfl (.const (.slice none 0 0)) (.tmp 8) _ rfl Tryz.underlying22 info_kpair (by rfl) (by decide) w.heap.size (.slice none 0 0) 0 [] rfl (MineR.nil _ _ _ _) B A n c (ps.map pvc) rfl HR.out HPV.out (by omega) (by unfold maxLen; omega) (Nat.le_refl _) ?_
       intro v1 w1 hm1 hg1 _
       rw [Nat.zero_add, List.nil_append] at hm1
       have M1 := Lib.hid hm1
       have C1 := Lib.hid ((Below.refl w.heap.size w).grown hg1 (Nat.le_refl _) (by simp [Value.ownBlock]))
       clear hm1 hg1)
    | (at_builtin
       refine wpList_append_rws (w1.alloc (.cells #[.slice A' n' c', .int .u64 v] 26)) rfl (.tmp 9) (.tmp 13) _ rfl Tryz.underlying22 info_kpair (by rfl) (by decide) w.heap.size v1 n (ps.map pvc) rfl (M1.out.alloc _) ⟨w1.heap.size, 0, none⟩ 1 (pvc ⟨A', n', c', key, v⟩) rfl rfl (HCL.out w1) (pair_one _) (by omega) (by unfold maxLen; omega) (by have := C1.out.size; simp; omega) ?_
       intro v2 w2 hm2 hg2 _
       have M2 := Lib.hid hm2
       have C2 := Lib.hid (below_grown (C1.out.alloc C1.out.size _) (M1.out.alloc _) hg2 (Nat.le_refl _) (by have := C1.out.size; simp; omega))
       clear hm2 hg2))
  obtain ⟨A2, c2, rfl, hc2⟩ := MineR.slice M2.out
  have hm : MineR w2 w.heap.size 26 2 (.slice A2 (n + 1) c2) (n + 1) ((ps ++ [(⟨A', n', c', key, v⟩ : PV)]).map pvc) := by
    rw [List.map_append]
    exact M2.out
  have HS := Lib.hid (rsort_any A2 (n + 1) c2 w2.heap.size (ps ++ [⟨A', n', c', key, v⟩]) w2 (PRow.prs hm (HKP.out w2 C2.out)) (HKP.out w2 C2.out) (Nat.le_refl _) (by omega))
  clear hm M1 C1
  go_wp2_with fail
  (with_reducible refine HS.out.mono ?_)
  rintro e w3 ⟨A3, c3, rfl, h3, p3, _, b3⟩
  have P3 := Lib.hid p3
  have B3 := Lib.hid (C2.out.trans (b3.mono C2.out.size))
  have H3 := Lib.hid h3
  clear p3 b3 h3 HS
  go_wp2_with fail
  go_ret
  exact ⟨A3, _, c3, rfl, H3.out, P3.out, B3.out⟩
set_option maxRecDepth 100000 in
set_option maxHeartbeats 1000000 in
theorem palive_any (w : World) (htb : Tb w) : Calls Tryz.prog 8 #[] w fun e w' => e = .returned (.bool true) ∧ Below w.heap.size w w' := by
  obtain ⟨W0, hW0⟩ : ∃ V, w.alloc (.cells #[.int .u8 1, .int .u8 2] 5) = V := ⟨_, rfl⟩
  have b0 : Below w.heap.size w W0 := by rw [← hW0]; exact (Below.refl _ _).alloc (Nat.le_refl _) _
  have y0 : Byt W0 W0.heap.size (some ⟨w.heap.size, 0, none⟩) 2 [1, 2] := by
    rw [← hW0, World.size_alloc]
    exact byt_two w 5 1 2 (x := 1) (y := 2) rfl rfl
  have H1 := Lib.hid (put_other (o := 3) (v := 5) (t := none) (p := none) (S := fun _ => False) (w := W0) (c := 2) (by decide) rfl (fun i q => q.elim) trivial trivial trivial y0 (Nat.le_refl _) (by decide) (by decide))
  have hle : 0 < w.heap.size := htb.lt
  have HTB := Lib.hid (fun V (h : Below w.heap.size w V) => htb.below h hle)
  have HLE := Lib.hid hle
  have B0 := Lib.hid b0
  clear htb y0 b0 hle
  go_enter Tryz.func8, Tryz.ntmps8
  go_wp2_with fail
  (with_reducible refine H1.out.mono ?_)
  rintro e w1 ⟨u1, rfl, t1, b1⟩
  obtain ⟨W2, hW2⟩ : ∃ V, w1.alloc (.cells #[.int .u8 1, .int .u8 4] 5) = V := ⟨_, rfl⟩
  have bw2 : Below w1.heap.size w1 W2 := by rw [← hW2]; exact (Below.refl _ _).alloc (Nat.le_refl _) _
  have y2 : Byt W2 W2.heap.size (some ⟨w1.heap.size, 0, none⟩) 2 [1, 4] := by
    rw [← hW2, World.size_alloc]
    exact byt_two w1 5 1 4 (x := 1) (y := 4) rfl rfl
  have t1' : OTre W2 (· < W2.heap.size) (some (lfP 3 5 [1, 2], .nil)) (some ⟨u1, 0, none⟩) := OTre.below (OTre.here t1) bw2
  have H2 := Lib.hid (put_other (o := 4) (v := 6) (c := 2) (by decide) t1' (fun i q => q) ⟨by decide, trivial⟩ (Can.srt alP_can) (Can.owf alP_can) y2 (Nat.le_refl _) (by decide) (by decide))
  have T1 := Lib.hid t1'
  have B2 := Lib.hid ((B0.out.trans (b1.mono B0.out.size)).trans (bw2.mono (Nat.le_trans B0.out.size b1.size)))
  clear b1 t1 bw2 y2 t1' H1 hW0
  go_wp2_with fail
  (with_reducible refine H2.out.mono ?_)
  rintro e w3 ⟨u2, rfl, t3, b3⟩
  have e3 : oputs 4 6 (some (lfP 3 5 [1, 2], .nil)) [1, 4] = alQ := alQ_put
  rw [e3] at t3
  have B3 := Lib.hid (B2.out.trans (b3.mono B2.out.size))
  have T3 := Lib.hid (OTre.here t3)
  have T13 := Lib.hid (T1.out.below b3)
  have H4 := shape_any _ _ w3.heap.size w3 T13.out alP_ok (HTB.out w3 B3.out) (Nat.lt_of_lt_of_le HLE.out B3.out.size) (Nat.le_refl _) (by rw [alP_sh]; decide)
  rw [alP_sh] at H4
  have H4 := Lib.hid H4
  have hst : ((bstr [76, 48, 49, 48, 50, 61, 53]).toList == [76, 48, 49, 48, 50, 61, 53]) = true := by rw [Lib.toList_data, bstr_toList]; decide
  clear b3 t3 e3 H2 hW2
  go_wp2_with fail
  (with_reducible refine H4.out.mono ?_)
  rintro e w4 ⟨rfl, b4⟩
  have B4 := Lib.hid (B3.out.trans (b4.mono B3.out.size))
  have H5 := shape_any _ _ w4.heap.size w4 (T3.out.below b4) alQ_ok (HTB.out w4 B4.out) (Nat.lt_of_lt_of_le HLE.out B4.out.size) (Nat.le_refl _) (by rw [alQ_sh]; decide)
  rw [alQ_sh] at H5
  have H5 := Lib.hid H5
  have hst2 : ((bstr [52, 60, 48, 49, 58, 48, 50, 76, 61, 53, 58, 48, 52, 76, 61, 54, 62]).toList == [52, 60, 48, 49, 58, 48, 50, 76, 61, 53, 58, 48, 52, 76, 61, 54, 62]) = true := by rw [Lib.toList_data, bstr_toList]; decide
  clear b4 H4
  go_wp2_with fail
  (with_reducible refine H5.out.mono ?_)
  rintro e w5 ⟨rfl, b5⟩
  have B5 := Lib.hid (B4.out.trans (b5.mono B4.out.size))
  clear b5 H5
  go_wp2_with fail
  go_ret
  exact ⟨rfl, B5.out⟩
end Go.Proofs.YtikmcmoegigfhaaGreatDoor
