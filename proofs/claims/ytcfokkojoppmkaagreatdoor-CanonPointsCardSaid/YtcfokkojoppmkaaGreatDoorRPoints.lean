/-
  The document's Points: the beginnings that two keys share, sorted, with what the document's fan and KindOf tell of each.
-/
import Derived.Test.YtcfokkojoppmkaaGreatDoorFan
import Derived.Test.YtcfokkojoppmkaaGreatDoorSort
import Derived.Test.YtcfokkojoppmkaaGreatDoorCanon
import Derived.Test.YtcfokkojoppmkaaGreatDoorKdKind
import Derived.Test.YtcfokkojoppmkaaGreatDoorKrow
namespace Go.Proofs.YtcfokkojoppmkaaGreatDoor
open Go.RowKit

def tkP (p q : PV) : PV := ⟨p.A, lcp p.key q.key, p.c, p.key.take (lcp p.key q.key), 0⟩
def allP (ps : List PV) : Nat → List PV
  | 0 => []
  | i + 1 => allP ps i ++ (match ps[i]? with | some p => (ps.take i).map (tkP p) | none => [])
theorem allP_succ {ps : List PV} {i : Nat} {p : PV} (h : ps[i]? = some p) : allP ps (i + 1) = allP ps i ++ (ps.take i).map (tkP p) := by rw [allP, h]
theorem allP_len (ps : List PV) : ∀ i, (allP ps i).length ≤ i * i
  | 0 => Nat.le_refl _
  | i + 1 => by
    have ih := allP_len ps i
    have e : (i + 1) * (i + 1) = i * i + i + i + 1 := by rw [Nat.add_mul, Nat.mul_add, Nat.one_mul, Nat.mul_one]; omega
    rcases hp : ps[i]? with _ | p
    · rw [allP, hp, List.append_nil, e]; omega
    · rw [allP_succ hp, List.length_append, List.length_map, List.length_take, e]; omega
theorem tk_byt {w : World} {B : Nat} {p : PV} (q : PV) (h : Byt w B p.A p.n p.key ∧ p.n ≤ p.c) : Byt w B (tkP p q).A (tkP p q).n (tkP p q).key ∧ (tkP p q).n ≤ (tkP p q).c := by
  have h1 := lcp_le_left p.key q.key
  have h2 := h.1.1
  exact ⟨h.1.take (by show lcp p.key q.key ≤ p.n; omega), by show lcp p.key q.key ≤ p.c; have := h.2; omega⟩
theorem allP_kps {w : World} {B : Nat} {ps : List PV} (h : Kps w B ps) : ∀ i, Kps w B (allP ps i)
  | 0 => fun _ hp => by cases hp
  | i + 1 => fun p hp => by
    rw [allP] at hp
    rcases List.mem_append.1 hp with q | q
    · exact allP_kps h i p q
    · split at q
      · rename_i z hz
        obtain ⟨y, _, rfl⟩ := List.mem_map.1 q
        exact tk_byt y (h z (List.mem_of_getElem? hz))
      · cases q
theorem allP_mem {ps : List PV} : ∀ {i : Nat} {y : PV}, y ∈ allP ps i ↔ ∃ a b p q, b < a ∧ a < i ∧ ps[a]? = some p ∧ ps[b]? = some q ∧ y = tkP p q
  | 0, y => ⟨fun h => (by cases h), fun ⟨a, _, _, _, _, h, _⟩ => by omega⟩
  | i + 1, y => by
    rw [allP, List.mem_append, allP_mem (i := i)]
    constructor
    · rintro (⟨a, b, p, q, h1, h2, h3⟩ | h)
      · exact ⟨a, b, p, q, h1, by omega, h3⟩
      · split at h
        · rename_i p hp
          obtain ⟨q, hq, rfl⟩ := List.mem_map.1 h
          obtain ⟨b, hb, hqb⟩ := mem_take_at hq
          exact ⟨i, b, p, q, hb, Nat.lt_succ_self _, hp, hqb, rfl⟩
        · cases h
    · rintro ⟨a, b, p, q, h1, h2, h3, h4, rfl⟩
      rcases Nat.lt_or_ge a i with h | h
      · exact .inl ⟨a, b, p, q, h1, h, h3, h4, rfl⟩
      · have : a = i := by omega
        subst this
        refine .inr ?_
        rw [h3]
        refine List.mem_map.2 ⟨q, ?_, rfl⟩
        exact List.mem_of_getElem? (i := b) (by rw [List.getElem?_take, if_pos h1]; exact h4)
theorem insS_keys (x : PV) (out : List PV) (z : List UInt8) : z ∈ (insS x out).map PV.key ↔ z = x.key ∨ z ∈ out.map PV.key := by
  have hmid : ∀ l : List PV, ∀ n, z ∈ (l.take n ++ x :: l.drop n).map PV.key ↔ z = x.key ∨ z ∈ l.map PV.key := fun l n => by
    conv => rhs; rw [← List.take_append_drop n l]
    simp only [List.map_append, List.map_cons, List.mem_append, List.mem_cons]
    constructor
    · rintro (h | h | h)
      · exact .inr (.inl h)
      · exact .inl h
      · exact .inr (.inr h)
    · rintro (h | h | h)
      · exact .inr (.inl h)
      · exact .inl h
      · exact .inr (.inr h)
  unfold insS
  split
  · rename_i y hy
    split
    · rename_i hk
      have e : (out.set (posS x.key out) { y with val := x.val }).map PV.key = out.map PV.key := by
        rw [List.map_set]
        obtain ⟨hl, he⟩ := List.getElem?_eq_some_iff.1 hy
        have : (out.map PV.key)[posS x.key out]'(by rw [List.length_map]; exact hl) = y.key := by rw [List.getElem_map, he]
        show (out.map PV.key).set _ y.key = _
        rw [← this]
        exact List.set_getElem_self _
      rw [e]
      constructor
      · exact .inr
      · rintro (h | h)
        · rw [h, ← hk]
          exact List.mem_map.2 ⟨y, List.mem_of_getElem? hy, rfl⟩
        · exact h
    · exact hmid _ _
  · exact hmid _ _
theorem sortS_keys (l : List PV) (z : List UInt8) : z ∈ (sortS l).map PV.key ↔ z ∈ l.map PV.key :=
  sort_ind (Q := fun l o => ∀ z, z ∈ o.map PV.key ↔ z ∈ l.map PV.key) (fun _ => Iff.rfl) (fun l x o ih z => by
    rw [insS_keys, ih z, List.map_append, List.mem_append]
    simp only [List.map_cons, List.map_nil, List.mem_singleton]
    exact Or.comm) l z
theorem lcp_flip : ∀ a b : List UInt8, lcp a b = lcp b a
  | [], [] => rfl
  | [], _ :: _ => rfl
  | _ :: _, [] => rfl
  | a :: l, b :: m => by
    by_cases h : a = b
    · subst h; rw [lcp_same, lcp_same, lcp_flip l m]
    · rw [lcp_ne h, lcp_ne (fun e => h e.symm)]
theorem take_flip (a b : List UInt8) : a.take (lcp a b) = b.take (lcp b a) := by
  have h := lcp_take (p := a) (u := b) (e := lcp a b) (Nat.le_refl _)
  have hl := lcp_le_left a b
  rw [lcp_flip b a]
  generalize lcp a b = e at h hl
  conv => rhs; rw [h]
  rw [List.take_append_of_le_length (by rw [List.length_take]; omega), List.take_take, Nat.min_self]
theorem rise_irr : ∀ z : List UInt8, ¬ cmpL z z < 0
  | [], h => by simp [cmpL] at h
  | c :: z, h => by
    rcases lt_cons.1 h with q | ⟨_, q⟩
    · exact Nat.lt_irrefl _ q
    · exact rise_irr z q
theorem pts_keys {ps : List PV} (hr : Rsn ps) (z : List UInt8) : z ∈ (sortS (allP ps ps.length)).map PV.key ↔ ∃ p ∈ ps.map kvP, ∃ q ∈ ps.map kvP, p.1 ≠ q.1 ∧ z = p.1.take (lcp p.1 q.1) := by
  rw [sortS_keys]
  have hlt : ∀ {a b : Nat} {p q : PV}, b < a → ps[a]? = some p → ps[b]? = some q → p.key ≠ q.key := fun {a b p q} h hp hq e => by
    obtain ⟨la, ea⟩ := List.getElem?_eq_some_iff.1 hp
    obtain ⟨lb, eb⟩ := List.getElem?_eq_some_iff.1 hq
    have := List.pairwise_iff_getElem.1 hr b a lb la h
    rw [ea, eb, e] at this
    exact (rise_irr _) this
  constructor
  · intro h
    obtain ⟨y, hy, rfl⟩ := List.mem_map.1 h
    obtain ⟨a, b, p, q, h1, _, h3, h4, rfl⟩ := allP_mem.1 hy
    exact ⟨kvP p, List.mem_map.2 ⟨p, List.mem_of_getElem? h3, rfl⟩, kvP q, List.mem_map.2 ⟨q, List.mem_of_getElem? h4, rfl⟩, hlt h1 h3 h4, rfl⟩
  · rintro ⟨_, hp0, _, hq0, hne, rfl⟩
    obtain ⟨p, hp1, rfl⟩ := List.mem_map.1 hp0
    obtain ⟨q, hq1, rfl⟩ := List.mem_map.1 hq0
    obtain ⟨a, ha⟩ := List.mem_iff_getElem?.1 hp1
    obtain ⟨b, hb⟩ := List.mem_iff_getElem?.1 hq1
    have la := (List.getElem?_eq_some_iff.1 ha).1
    have lb := (List.getElem?_eq_some_iff.1 hb).1
    rcases Nat.lt_trichotomy a b with h | h | h
    · exact List.mem_map.2 ⟨tkP q p, allP_mem.2 ⟨b, a, q, p, h, lb, hb, ha, rfl⟩, (take_flip q.key p.key)⟩
    · subst h
      rw [ha] at hb
      injection hb with hb
      exact absurd (by rw [hb]) hne
    · exact List.mem_map.2 ⟨tkP p q, allP_mem.2 ⟨a, b, p, q, h, la, ha, hb, rfl⟩, rfl⟩
/-- A point of the document. -/
def ptK (L : List KV) (z : PV) : Ky := ⟨z.A, z.c, z.key, [.int .i64 (kindN (fanN L z.key)), .bool (hasN L z.key)]⟩
theorem ptK_cells (L : List KV) {z : PV} (h : z.n = z.key.length) : (ptK L z).cells = [.slice z.A z.n z.c, .int .i64 (kindN (fanN L z.key)), .bool (hasN L z.key)] := by rw [h]; rfl
set_option maxRecDepth 100000 in
theorem info_rpoint : (Tryz.prog.info? 63).map (fun i => (i.zero, i.size, i.bytes)) = some (some (.agg #[.slice none 0 0, .int .i64 0, .bool false]), 3, 40) := by kernel_rfl
theorem point_cells {w : World} {g : Nat} {a b c : Value} (h : Blk w g #[a, b, c]) : ∀ (j : Nat) (u : Value), ([a, b, c] : List Value)[j]? = some u → w.cell? ((⟨g, 0, none⟩ : Addr).add j) = some u := lit_cells (cs := [a, b, c]) h
set_option maxRecDepth 100000 in
theorem u8_elem : Tryz.prog.underlying 42 = some (.slice 5) := Tryz.underlying42
set_option maxRecDepth 100000 in
theorem u8_size : (Tryz.prog.info? 5).map (·.size) = some 1 := by kernel_rfl

set_option maxRecDepth 100000 in
set_option maxHeartbeats 4000000 in
theorem rpoints_any (A : Option Addr) (n c B : Nat) (ps : List PV) (w : World) (ha : Prs w B A n ps) (hk : Kps w B ps) (hB : B ≤ w.heap.size) (hn : n ≤ 60) :
    Calls Tryz.prog 27 #[.slice A n c] w fun e w' => ∃ A' c', e = .returned (.slice A' (sortS (allP ps n)).length c') ∧ (sortS (allP ps n)).length ≤ c' ∧ Kys w' w'.heap.size A' 3 ((sortS (allP ps n)).map (ptK (ps.map kvP))) ∧ Below w.heap.size w w' := by
  have HA := Lib.hid (fun V (h : Below w.heap.size w V) => ((ha.more hB).below h))
  have HK := Lib.hid (fun V (h : Below w.heap.size w V) => ((hk.more hB).below h))
  have HN := Lib.hid ha.1
  clear ha hk
  go_enter Tryz.func27, Tryz.ntmps27
  go_wp2
  go_loopw [3, 4] (fun v i wr => ∃ k : Nat, k ≤ n ∧ i = .int .i64 k ∧ Hid (PRow wr w.heap.size 65 v (allP ps k).length (allP ps k)) ∧ Hid (Below w.heap.size w wr)) (fun _ i _ => n - (intOf i).toNat)
  case atStart => exact ⟨0, Nat.zero_le _, rfl, Lib.hid (MineR.nil _ _ _ _), Lib.hid (Below.refl _ _)⟩
  case round =>
    obtain ⟨k, hk, rfl, HR, HB⟩ := hrel
    by_cases h1 : k < n
    · obtain ⟨ad, p, rfl, hlt, e1, c1, _, _⟩ := (HA.out _ HB.out).at_ h1
      have HE1 := Lib.hid e1
      have HNX := Lib.hid (allP_succ e1)
      have HLA := Lib.hid (allP_len ps k)
      have hk60 : k ≤ 60 := by omega
      have ik : (k : Int) < (n : Int) := by omega
      clear e1 c1
      go_wp2
      go_loopw [3, 5] (fun v j wq => ∃ jj : Nat, jj ≤ k ∧ j = .int .i64 jj ∧ Hid (PRow wq w.heap.size 65 v (allP ps k ++ (ps.take jj).map (tkP p)).length (allP ps k ++ (ps.take jj).map (tkP p))) ∧ Hid (Below w.heap.size w wq)) (fun _ j _ => k - (intOf j).toNat)
      case atStart => exact ⟨0, Nat.zero_le _, rfl, Lib.hid (by rw [List.take_zero, List.map_nil, List.append_nil]; exact HR.out), HB⟩
      case round =>
        obtain ⟨jj, hj, rfl, HR2, HB2⟩ := hrel
        by_cases hj1 : jj < k
        · obtain ⟨_, p1, e0, _, e1, c1, _, bp⟩ := (HA.out _ HB2.out).at_ h1
          injection e0 with e0
          subst e0
          rw [HE1.out] at e1
          injection e1 with e1
          subst e1
          obtain ⟨_, q, e0, _, e2, d1, _, bq⟩ := (HA.out _ HB2.out).at_ (show jj < n by omega)
          injection e0 with e0
          subst e0
          have ij : (jj : Int) < (k : Int) := by omega
          have ijn : (jj : Int) < (n : Int) := by omega
          have HJX := Lib.hid (show allP ps k ++ (ps.take (jj + 1)).map (tkP p) = (allP ps k ++ (ps.take jj).map (tkP p)) ++ [tkP p q] by rw [take_succ_at e2, List.map_append, List.append_assoc]; rfl)
          have hlen : (allP ps k ++ (ps.take jj).map (tkP p)).length ≤ 4000 := by
            have := HLA.out
            have : k * k ≤ 60 * 60 := Nat.mul_le_mul hk60 hk60
            rw [List.length_append, List.length_map, List.length_take]
            omega
          obtain ⟨out, hout⟩ : ∃ o, allP ps k ++ (ps.take jj).map (tkP p) = o := ⟨_, rfl⟩
          rw [hout] at HR2 hlen HJX
          obtain ⟨m, hm⟩ : ∃ m, out.length = m := ⟨_, rfl⟩
          have HM := Lib.hid hm
          rw [hm] at HR2 hlen
          obtain ⟨A1, cp1, rfl, _⟩ := MineR.slice HR2.out
          have hpc : lcp p.key q.key ≤ p.c := (tk_byt q (HK.out _ HB2.out p (List.mem_of_getElem? HE1.out))).2
          have sl := slc_upto (P := Tryz.prog) u8_elem u8_size p.A p.n p.c (lcp p.key q.key) hpc
          have HPV := Lib.hid (show pvc (tkP p q) = [.slice p.A (lcp p.key q.key) p.c, .int .u64 0] from rfl)
          obtain ⟨lc, hlc⟩ : ∃ l, lcp p.key q.key = l := ⟨_, rfl⟩
          rw [hlc] at sl HPV
          have HCM := Lib.hid (fun t => show Calls Tryz.prog 59 #[.slice p.A p.n p.c, .slice q.A q.n q.c] (wr.drewN t) fun e w' => e = .returned (.int .i64 (lc : Int)) ∧ Still (wr.drewN t) w' from hlc ▸ rcommon_any p.A q.A p.n q.n p.c q.c w.heap.size p.key q.key (wr.drewN t) (bp.drewN t) (bq.drewN t))
          have hz := HB2.out.size
          clear e2 bp bq hout hm hlc hpc
          go_wp2_with fail
          go_quiet ((go_at_call 59; exact quiet_st1 (HCM.out _)))
          refine (?bodyB : ∀ V, Still wr V → Exit.then _ _ _ _ V) _ ?stB
          case stB => repeat (first | exact Still.refl _ | apply Still.step)
          intro V hV
          have HVB := Lib.hid (HB2.out.trans (hV.below w.heap.size))
          have HRV := Lib.hid (MineR.still HR2.out hV)
          have hvs := HVB.out.size
          have c1' : V.cell? (ad.add (k * 2)) = some (.slice p.A p.n p.c) := by obtain ⟨t, rfl⟩ := hV; exact c1
          have HY := Lib.hid (show ∀ (j : Nat) (u : Value), ([.slice p.A lc p.c, .int .u64 0] : List Value)[j]? = some u → (V.alloc (.cells #[.slice p.A lc p.c, .int .u64 0] 65)).cell? ((⟨V.heap.size, 0, none⟩ : Addr).add j) = some u from lit_cells (cs := [.slice p.A lc p.c, .int .u64 0]) (Blk.new V _ _))
          clear hV c1 d1 hz
          go_wp2_with (at_builtin
                       refine wpList_append_rws (V.alloc (.cells #[.slice p.A lc p.c, .int .u64 0] 65)) rfl (.tmp 33) (.tmp 42) _ rfl Tryz.underlying22 info_kpair (by rfl) (by decide) w.heap.size (.slice A1 m cp1) m (out.map pvc) rfl (HRV.out.alloc _) ⟨V.heap.size, 0, none⟩ 1 [.slice p.A lc p.c, .int .u64 0] rfl rfl HY.out (by intro u hu; simp at hu; rcases hu with rfl | rfl <;> rfl) (by omega) (by unfold maxLen; omega) (by simp; omega) ?_
                       intro v2 w2 hm2 hg2 _
                       have M2 := Lib.hid (show MineR w2 w.heap.size 65 2 v2 (out ++ [tkP p q]).length ((out ++ [tkP p q]).map pvc) by rw [List.length_append, HM.out, List.map_append, List.map_singleton, HPV.out]; exact hm2)
                       have C2 := Lib.hid (below_grown (HVB.out.alloc HVB.out.size _) (HRV.out.alloc _) hg2 (Nat.le_refl _) (by simp; omega))
                       clear hm2 hg2)
          go_wp2
          exact ⟨⟨jj + 1, by omega, by go_num, Lib.hid (by rw [HJX.out]; exact M2.out), C2⟩, by simp [intOf]; omega⟩
        · obtain rfl : jj = k := by omega
          have HR3 := Lib.hid (show PRow wr w.heap.size 65 _ (allP ps (jj + 1)).length (allP ps (jj + 1)) from HNX.out ▸ HR2.out)
          clear HR2
          go_wp2
          exact ⟨⟨jj + 1, by omega, by go_num, HR3, HB2⟩, by simp [intOf]; omega⟩
    · obtain rfl : k = n := by omega
      have hlen : (allP ps k).length ≤ 4000 := by
        have := allP_len ps k
        have : k * k ≤ 60 * 60 := Nat.mul_le_mul hn hn
        omega
      obtain ⟨all, hall⟩ : ∃ o, allP ps k = o := ⟨_, rfl⟩
      have HKA := Lib.hid (fun V (h : Below w.heap.size w V) => show Kps V w.heap.size all from hall ▸ allP_kps (HK.out V h) k)
      rw [hall] at HR hlen
      obtain ⟨A1, cp1, rfl, _⟩ := MineR.slice HR.out
      obtain ⟨m, hm⟩ : ∃ m, all.length = m := ⟨_, rfl⟩
      rw [hm] at HR hlen ⊢
      have HS := Lib.hid (show Calls Tryz.prog 25 #[.slice A1 m cp1] wr _ from rsort_any A1 m cp1 wr.heap.size all wr (PRow.prs HR.out ((HKA.out _ HB.out).more HB.out.size)) ((HKA.out _ HB.out).more HB.out.size) (Nat.le_refl _) hlen)
      obtain ⟨D, hD⟩ : ∃ D, sortS all = D := ⟨_, rfl⟩
      have HKD := Lib.hid (fun V (h : Below w.heap.size w V) => show Kps V w.heap.size D from hD ▸ (HKA.out V h).sort)
      have hDl : D.length ≤ 4000 := by have := (sortS_len all).1; rw [hD] at this; omega
      rw [hD] at HS
      have HEQ := Lib.hid (show sortS (allP ps k) = D by rw [hall]; exact hD)
      obtain ⟨L, hL⟩ : ∃ L, ps.map kvP = L := ⟨_, rfl⟩
      have HL := Lib.hid hL
      have HDN : Hid (∃ d, D.length = d ∧ d ≤ 4000) := Lib.hid ⟨_, rfl, hDl⟩
      obtain ⟨d, hd, hd4⟩ := HDN.out
      rw [hd] at HS
      have HDL := Lib.hid hd
      clear hall HR hm hD hL HKA hDl HDN hd
      go_wp2_with fail
      (with_reducible refine HS.out.mono ?_)
      rintro e w2 ⟨A2, c2, rfl, _, p2, _, b2⟩
      have HPD := Lib.hid (fun V (h : Below w2.heap.size w2 V) => p2.below h)
      have HB2 := Lib.hid (HB.out.trans (b2.mono HB.out.size))
      clear p2 b2 HS
      go_wp2
      go_loopw [7, 8] (fun v i wq => ∃ k : Nat, k ≤ d ∧ i = .int .i64 k ∧ Hid (MineR wq w2.heap.size 63 3 v k (((D.take k).map (ptK L)).map Ky.cells)) ∧ Hid (Below w2.heap.size w2 wq)) (fun _ i _ => d - (intOf i).toNat)
      case atStart => exact ⟨0, Nat.zero_le _, rfl, Lib.hid (MineR.nil _ _ _ _), Lib.hid (Below.refl _ _)⟩
      case round =>
        obtain ⟨k1, hk1, rfl, HR, HBq⟩ := hrel
        by_cases h2 : k1 < d
        · obtain ⟨ad, z, rfl, hlt2, f1, d1, _, bz⟩ := (HPD.out _ HBq.out).at_ h2
          have HF1 := Lib.hid f1
          have hbw := HB2.out.trans (HBq.out.mono HB2.out.size)
          have hzz := HKD.out _ hbw z (List.mem_of_getElem? f1)
          have HFN := Lib.hid (show Calls Tryz.prog 60 #[.slice A k c, .slice z.A z.n z.c] wr _ from rfan_any A z.A k c z.n z.c w.heap.size ps z.key wr (HA.out _ hbw) hzz.1 hbw.size (by omega))
          have HZC := Lib.hid (ptK_cells L (z := z) hzz.1.1.symm)
          have ik : (k1 : Int) < (d : Int) := by omega
          have hqs := HBq.out.size
          clear f1 bz hbw hzz
          go_wp2_with fail
          (with_reducible refine HFN.out.mono ?_)
          rintro e w4 ⟨rfl, b4⟩
          rw [HL.out]
          have hfl := fan_le L z.key
          have HZ2 := Lib.hid (show (ptK L z).cells = [.slice z.A z.n z.c, .int .i64 (kindN (fanN L z.key)), .bool (hasN L z.key)] from HZC.out)
          obtain ⟨fm, hfm⟩ : ∃ f, fanN L z.key = f := ⟨_, rfl⟩
          obtain ⟨fh, hfh⟩ : ∃ f, hasN L z.key = f := ⟨_, rfl⟩
          rw [hfm] at hfl
          rw [hfm, hfh] at HZ2 ⊢
          have CZ := Lib.hid (fun V => (show Calls Tryz.prog 61 #[.int .i64 (fm : Int)] V fun e w' => e = .returned (.int .i64 (kindN fm : Int)) ∧ w' = V from by rw [← kindZ_nat hfl]; exact rkindof_any V _))
          have B4 := Lib.hid (HBq.out.trans (b4.mono HBq.out.size))
          have h4s := b4.size
          have d1' : w4.cell? (ad.add (k1 * 2)) = some (.slice z.A z.n z.c) := (b4.cell (lt_cell d1)).trans d1
          have HR4 := Lib.hid (HR.out.below b4 (fun g hg => (HR.out.lt g hg).2))
          obtain ⟨A5, cp5, rfl, _⟩ := MineR.slice HR.out
          have HNX := Lib.hid (show ((D.take (k1 + 1)).map (ptK L)).map Ky.cells = ((D.take k1).map (ptK L)).map Ky.cells ++ [[.slice z.A z.n z.c, .int .i64 (kindN fm), .bool fh]] by rw [take_succ_at HF1.out, List.map_append, List.map_append, List.map_singleton, List.map_singleton, HZ2.out])
          have SS := Lib.hid (show w4.drew.cell? (ad.add (k1 * 2)) = some (.slice z.A z.n z.c) from d1')
          have d1v := SS.out
          obtain ⟨kz, hkz⟩ : ∃ q, kindN fm = q := ⟨_, rfl⟩
          rw [hkz] at CZ HNX
          clear d1 d1' b4 HFN HZC HZ2 hkz hfm hfh HR
          go_wp2_with fail
          refine wp_region_held_drew (S := (fun W => W.cell? (ad.add (k1 * 2)) = some (.slice z.A z.n z.c))) (by kernel_rfl) SS.out (fun hHeld => ?_)
          refine wpAnyH_take (i := 0) (oi := { dst := some 62, op := Op.move (Operand.tmp 7), type := 58, pos := "ref.go:225", after := #[], guard := none }) (v := ?v1) rfl (by kernel_rfl) (by kernel_rfl) (by kernel_rfl) (fun _ _ _ h => h) (Or.inl ⟨by rfl, ?hy1⟩) hHeld ?rest1
          case hy1 => (intro w' hSw; (try dsimp only at hSw); go_simp; (try with_reducible rfl))
          try simp only [Act.put, List.setIfInBounds_toArray, List.set_cons_zero, List.set_cons_succ]
          refine wpAnyH_take (i := 1) (oi := { dst := some 63, op := Op.move (Operand.tmp 3), type := 22, pos := "ref.go:225", after := #[], guard := none }) (v := ?v2) rfl (by kernel_rfl) (by kernel_rfl) (by kernel_rfl) (fun _ _ _ h => h) (Or.inl ⟨by rfl, ?hy2⟩) hHeld ?rest2
          case hy2 => (intro w' hSw; (try dsimp only at hSw); go_simp; (try with_reducible rfl))
          try simp only [Act.put, List.setIfInBounds_toArray, List.set_cons_zero, List.set_cons_succ]
          refine wpAnyH_take (i := 2) (oi := { dst := some 64, op := Op.move (Operand.tmp 8), type := 3, pos := "ref.go:225", after := #[], guard := none }) (v := ?v3) rfl (by kernel_rfl) (by kernel_rfl) (by kernel_rfl) (fun _ _ _ h => h) (Or.inl ⟨by rfl, ?hy3⟩) hHeld ?rest3
          case hy3 => (intro w' hSw; (try dsimp only at hSw); go_simp; (try with_reducible rfl))
          try simp only [Act.put, List.setIfInBounds_toArray, List.set_cons_zero, List.set_cons_succ]
          refine wpAnyH_take (i := 3) (oi := { dst := some 65, op := Op.indexAddr 22 (Operand.tmp 63) (Operand.tmp 64), type := 0, pos := "ref.go:225", after := #[{ on := 1, ground := Ground.data }, { on := 2, ground := Ground.data }], guard := none }) (v := ?v4) rfl (by kernel_rfl) (by kernel_rfl) (by kernel_rfl) (fun _ _ _ h => h) (Or.inl ⟨by rfl, ?hy4⟩) hHeld ?rest4
          case hy4 => (intro w' hSw; (try dsimp only at hSw); go_simp; (try with_reducible rfl))
          try simp only [Act.put, List.setIfInBounds_toArray, List.set_cons_zero, List.set_cons_succ]
          refine wpAnyH_take (i := 4) (oi := { dst := some 66, op := Op.fieldAddr 65 (Operand.tmp 65) 0, type := 0, pos := "ref.go:225", after := #[{ on := 3, ground := Ground.data }], guard := none }) (v := ?v5) rfl (by kernel_rfl) (by kernel_rfl) (by kernel_rfl) (fun _ _ _ h => h) (Or.inl ⟨by rfl, ?hy5⟩) hHeld ?rest5
          case hy5 => (intro w' hSw; (try dsimp only at hSw); go_simp; (try with_reducible rfl))
          try simp only [Act.put, List.setIfInBounds_toArray, List.set_cons_zero, List.set_cons_succ]
          refine wpAnyH_take (i := 5) (oi := { dst := some 67, op := Op.load 42 (Operand.tmp 66), type := 42, pos := "ref.go:225", after := #[{ on := 4, ground := Ground.data }], guard := none }) (v := ?v6) rfl (by kernel_rfl) (by kernel_rfl) (by kernel_rfl) (fun _ _ _ h => h) (Or.inl ⟨by rfl, ?hy6⟩) hHeld ?rest6
          case hy6 => (intro w' hSw; (try dsimp only at hSw); go_simp; (try with_reducible rfl))
          try simp only [Act.put, List.setIfInBounds_toArray, List.set_cons_zero, List.set_cons_succ]
          refine wpAnyH_take (i := 6) (oi := { dst := some 68, op := Op.move (Operand.tmp 9), type := 3, pos := "ref.go:225", after := #[], guard := none }) (v := ?v7) rfl (by kernel_rfl) (by kernel_rfl) (by kernel_rfl) (fun _ _ _ h => h) (Or.inl ⟨by rfl, ?hy7⟩) hHeld ?rest7
          case hy7 => (intro w' hSw; (try dsimp only at hSw); go_simp; (try with_reducible rfl))
          try simp only [Act.put, List.setIfInBounds_toArray, List.set_cons_zero, List.set_cons_succ]
          refine wpAnyH_take (i := 8) (oi := { dst := some 70, op := Op.move (Operand.tmp 10), type := 4, pos := "ref.go:225", after := #[], guard := none }) (v := ?v8) rfl (by kernel_rfl) (by kernel_rfl) (by kernel_rfl) (fun _ _ _ h => h) (Or.inl ⟨by rfl, ?hy8⟩) hHeld ?rest8
          case hy8 => (intro w' hSw; (try dsimp only at hSw); go_simp; (try with_reducible rfl))
          try simp only [Act.put, List.setIfInBounds_toArray, List.set_cons_zero, List.set_cons_succ]
          refine wpAnyH_ready (rs := [7]) (by kernel_rfl) (by simp) (AllReadyH.cons (o := { dst := some 69, op := Op.call { callee := Callee.value (Operand.func 61), args := #[Operand.tmp 68], argTypes := #[3] }, type := 3, pos := "ref.go:225", after := #[{ on := 6, ground := Ground.data }], guard := none }) rfl (fun K hK => ?_) AllReadyH.nil)
          go_simp
          (with_reducible refine (CZ.out _).mono ?_)
          rintro e U5 ⟨rfl, rfl⟩
          go_wp2_with fail
          refine hK.out _ _ SS.out (fun hHeld' => ?_)
          clear hK K hHeld
          have hHeld := hHeld'
          clear hHeld'
          try simp only [Act.put, List.setIfInBounds_toArray, List.set_cons_zero, List.set_cons_succ]
          refine wpAnyH_take (i := 9) (oi := { dst := some 71, op := Op.build 63 #[(0, Operand.tmp 67), (1, Operand.tmp 69), (2, Operand.tmp 70)], type := 63, pos := "ref.go:225", after := #[{ on := 5, ground := Ground.data }, { on := 7, ground := Ground.data }, { on := 8, ground := Ground.data }], guard := none }) (v := ?v9) rfl (by kernel_rfl) (by kernel_rfl) (by kernel_rfl) (fun _ _ _ h => h) (Or.inl ⟨by rfl, ?hy9⟩) hHeld ?rest9
          case hy9 => (intro w' hSw; (try dsimp only at hSw); go_simp; (try with_reducible rfl))
          try simp only [Act.put, List.setIfInBounds_toArray, List.set_cons_zero, List.set_cons_succ]
          refine wpAnyH_ready (rs := [10]) (by kernel_rfl) (by simp) (AllReadyH.cons (o := { dst := some 72, op := Op.buildSlice 58 1 #[(0, Operand.tmp 71)], type := 58, pos := "ref.go:225", after := #[{ on := 9, ground := Ground.data }], guard := none }) rfl (fun K hK => ?_) AllReadyH.nil)
          go_simp
          obtain ⟨U3, hU3⟩ : ∃ W, (w4.alloc (.cells #[.slice z.A z.n z.c, .int .i64 kz, .bool fh] 63)).drew = W := ⟨_, rfl⟩
          have B3 := Lib.hid (show Below w2.heap.size w2 U3 by rw [← hU3]; exact (B4.out.alloc (by have := B4.out.size; exact this) _).drew)
          have S3 := Lib.hid (show U3.cell? (ad.add (k1 * 2)) = some (.slice z.A z.n z.c) by rw [← hU3]; exact (World.cell?_alloc_lt _ _ _ (lt_cell SS.out)).trans SS.out)
          have LB := Lib.hid (show Blk U3 w4.heap.size #[.slice z.A z.n z.c, .int .i64 kz, .bool fh] by rw [← hU3]; exact Blk.new _ _ _)
          have MR := Lib.hid (show MineR U3 w2.heap.size 63 3 (.slice A5 k1 cp5) k1 (((D.take k1).map (ptK L)).map Ky.cells) by rw [← hU3]; exact (HR4.out.alloc _).drewN 1)
          rw [hU3]
          clear hU3
          refine hK.out _ _ S3.out (fun hHeld' => ?_)
          clear hK K hHeld
          have hHeld := hHeld'
          clear hHeld'
          try simp only [Act.put, List.setIfInBounds_toArray, List.set_cons_zero, List.set_cons_succ]
          refine wpAnyH_ready (rs := [11]) (by kernel_rfl) (by simp) (AllReadyH.cons (o := { dst := some 73, op := Op.call { callee := Callee.builtin Builtin.append, args := #[Operand.tmp 62, Operand.tmp 72], argTypes := #[58, 58] }, type := 58, pos := "ref.go:225", after := #[{ on := 0, ground := Ground.data }, { on := 10, ground := Ground.data }, { on := 7, ground := Ground.chain }], guard := none }) rfl (fun K hK => ?_) AllReadyH.nil)
          rw [if_pos (by rfl)]
          refine wp_append_rws _ (.tmp 62) (.tmp 72) _ rfl Tryz.underlying58 info_rpoint (by rfl) (by decide) w2.heap.size (.slice A5 k1 cp5) k1 (((D.take k1).map (ptK L)).map Ky.cells) (by rfl) MR.out ⟨w4.heap.size, 0, none⟩ 1 [.slice z.A z.n z.c, .int .i64 kz, .bool fh] (by rfl) (by rfl) (point_cells LB.out) (by intro u hu; simp at hu; rcases hu with rfl | rfl | rfl <;> rfl) (by omega) (by unfold maxLen; omega) B3.out.size ?_
          intro v3 U4 m3 g3 o3
          obtain ⟨A3, c3, rfl, _⟩ := m3.slice
          have M5 := Lib.hid (show MineR U4 w2.heap.size 63 3 (.slice A3 (k1 + 1) c3) (k1 + 1) (((D.take (k1 + 1)).map (ptK L)).map Ky.cells) by rw [HNX.out]; exact m3)
          have B5 := Lib.hid (below_grown B3.out MR.out g3 (Nat.le_refl _) B3.out.size)
          have hlt3 : ad.block < w2.heap.size := hlt2
          have S5 := Lib.hid (show U4.cell? (ad.add (k1 * 2)) = some (.slice z.A z.n z.c) from by have := (HPD.out _ B5.out).at_ h2; obtain ⟨_, z1, e0, _, f1, d1, _, _⟩ := this; injection e0 with e0; subst e0; rw [HF1.out] at f1; injection f1 with f1; subst f1; exact d1)
          clear m3 g3 o3
          refine hK.out _ _ S5.out (fun hHeld' => ?_)
          clear hK K hHeld
          have hHeld := hHeld'
          clear hHeld'
          try simp only [Act.put, List.setIfInBounds_toArray, List.set_cons_zero, List.set_cons_succ]
          refine wpAnyH_take (i := 12) (oi := { dst := some 7, op := Op.assign (Operand.tmp 73), type := 58, pos := "ref.go:225", after := #[{ on := 11, ground := Ground.data }, { on := 11, ground := Ground.chain }, { on := 0, ground := Ground.phase }, { on := 1, ground := Ground.phase }, { on := 2, ground := Ground.phase }, { on := 3, ground := Ground.phase }, { on := 4, ground := Ground.phase }, { on := 5, ground := Ground.phase }, { on := 6, ground := Ground.phase }, { on := 7, ground := Ground.phase }, { on := 8, ground := Ground.phase }, { on := 9, ground := Ground.phase }, { on := 10, ground := Ground.phase }, { on := 11, ground := Ground.phase }], guard := none }) (v := ?v10) rfl (by kernel_rfl) (by kernel_rfl) (by kernel_rfl) (fun _ _ _ h => h) (Or.inl ⟨by rfl, ?hy10⟩) hHeld ?rest10
          case hy10 => (intro w' hSw; (try dsimp only at hSw); go_simp; (try with_reducible rfl))
          try simp only [Act.put, List.setIfInBounds_toArray, List.set_cons_zero, List.set_cons_succ]
          refine wpAnyH_done (by kernel_rfl) ?_ _
          go_wp2
          exact ⟨⟨k1 + 1, by omega, by go_num, M5, B5⟩, by simp [intOf]; omega⟩
        · obtain rfl : k1 = d := by omega
          have hDt : D.take k1 = D := List.take_of_length_le (by rw [HDL.out]; exact Nat.le_refl _)
          rw [hDt] at HR
          obtain ⟨A5, cp5, rfl, hc5⟩ := MineR.slice HR.out
          have hbw := HB2.out.trans (HBq.out.mono HB2.out.size)
          have HKY := Lib.hid (show Kys wr wr.heap.size A5 3 (D.map (ptK L)) from ⟨by
            have h := MineR.rws HR.out
            rw [show (D.map (ptK L)).length = k1 by rw [List.length_map]; exact HDL.out]
            exact h, fun y hy => by
            obtain ⟨z, hz, rfl⟩ := List.mem_map.1 hy
            have h := HKD.out _ hbw z hz
            have h2 : z.key.length = z.n := h.1.1
            refine ⟨?_, ?_⟩
            · show Byt wr wr.heap.size z.A z.key.length z.key
              rw [h2]
              exact h.1.more hbw.size
            · show z.key.length ≤ z.c
              rw [h2]
              exact h.2⟩)
          have HBW := Lib.hid hbw
          clear hDt hbw
          go_wp2
          go_ret
          rw [HEQ.out, HDL.out, HL.out]
          exact ⟨A5, cp5, rfl, hc5, HKY.out, HBW.out⟩
end Go.Proofs.YtcfokkojoppmkaaGreatDoor
