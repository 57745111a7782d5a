/-
  How many pairs, from the first one on, have its key's byte at a place.
  The canonical tree of pairs: what it is, and what its making stands on.
  A tree in memory, where one owner may write to his own nodes: these lie apart from each other, in blocks D; all others lie in S, and none of them is his.
  A slice's part as run equations, whatever its cells; pairs by a byte; groups of pairs that rise.
-/
import Derived.Test.YtajpipaooaemdaaGreatDoorShape
import Derived.Test.YtajpipaooaemdaaGreatDoorCanRead
import Derived.Test.YtajpipaooaemdaaGreatDoorText
import Derived.Test.YtajpipaooaemdaaGreatDoorTree
import Derived.Test.YtajpipaooaemdaaGreatDoorNdWrite
namespace Go.Proofs.YtajpipaooaemdaaGreatDoor
open Go.RowKit

set_option maxRecDepth 100000 in
theorem alike1_any (A : Option Addr) (n c B q i x y : Nat) (ps : List PV) (bt : Nat → UInt8) (w : World) (ha : Prs w B A n ps) (h0 : 0 < n) (hi : i < n)
    (hbt : ∀ i p, ps[i]? = some p → p.key[q]? = some (bt i)) (cx : w.cell? ⟨x, 0, none⟩ = some (.slice A n c)) (cy : w.cell? ⟨y, 0, none⟩ = some (.int .i64 (q : Int))) :
    Calls Tryz.prog 90 #[.int .i64 (i : Int), .pointer (some ⟨x, 0, none⟩), .pointer (some ⟨y, 0, none⟩)] w fun e w' => e = .returned (.bool (bt i != bt 0)) ∧ Still w w' := by
  obtain ⟨ad, p, rfl, _, e1, c1, c2, b1⟩ := ha.at_ hi
  obtain ⟨ad', p0, e, _, e2, c3, c4, b2⟩ := ha.at_ h0
  cases e
  have k1 := hbt i p e1
  have k2 := hbt 0 p0 e2
  obtain ⟨z1, hz1⟩ : ∃ z, bt i = z := ⟨_, rfl⟩
  obtain ⟨z2, hz2⟩ : ∃ z, bt 0 = z := ⟨_, rfl⟩
  rw [hz1] at k1 ⊢
  rw [hz2] at k2 ⊢
  have l1 : q < p.n := by have := (List.getElem?_eq_some_iff.1 k1).1; have := b1.1; omega
  have l2 : q < p0.n := by have := (List.getElem?_eq_some_iff.1 k2).1; have := b2.1; omega
  obtain ⟨d1, u1, f1, _, g1, h1⟩ := b1.at_ l1
  obtain ⟨d2, u2, f2, _, g2, h2⟩ := b2.at_ l2
  rw [k1] at g1
  rw [k2] at g2
  injection g1 with g1
  injection g2 with g2
  subst g1 g2
  rw [f1] at c1
  rw [f2] at c3
  have HE := Lib.hid (show (z1 != z2) = ((z1.toNat : Int) != (z2.toNat : Int)) from by
    by_cases h : z1 = z2
    · rw [h, bne_self_eq_false, bne_self_eq_false]
    · have : ¬ (z1.toNat : Int) = z2.toNat := fun q => h (UInt8.toNat_inj.1 (by omega))
      rw [bne_iff_ne.2 h, bne_iff_ne.2 this])
  rw [HE.out]
  rw [Nat.zero_mul, show ad.add 0 = ad by simp [Addr.add]] at c3
  obtain ⟨kz1, hkz1⟩ : ∃ v : Int, (z1.toNat : Int) = v := ⟨_, rfl⟩
  obtain ⟨kz2, hkz2⟩ : ∃ v : Int, (z2.toNat : Int) = v := ⟨_, rfl⟩
  rw [hkz1] at h1 ⊢
  rw [hkz2] at h2 ⊢
  clear ha hbt hz1 hz2 k1 k2 b1 b2 e1 e2 c2 c4 f1 f2 HE hkz1 hkz2
  generalize p.n = m1 at *
  generalize p.c = r1 at *
  generalize p0.n = m2 at *
  generalize p0.c = r2 at *
  go_enter Tryz.func90, Tryz.ntmps90
  go_wp2
  go_quiet (fail)
  go_wp2
  go_ret
  exact ⟨rfl, by repeat (first | exact Still.refl _ | apply Still.step)⟩

set_option maxRecDepth 100000 in
set_option maxHeartbeats 1000000 in
theorem ssearch_any (n x y : Nat) (f : Nat → Bool) (w : World) (hn : n ≤ 1000000) (hm : ∀ i j, i ≤ j → f i = true → f j = true)
    (hf : ∀ W i, Still w W → i < n → Calls Tryz.prog 90 #[.int .i64 (i : Int), .pointer (some ⟨x, 0, none⟩), .pointer (some ⟨y, 0, none⟩)] W fun e w' => e = .returned (.bool (f i)) ∧ Still W w') :
    Calls Tryz.prog 89 #[.int .i64 (n : Int), .func (.func 90) #[] #[.pointer (some ⟨x, 0, none⟩), .pointer (some ⟨y, 0, none⟩)]] w fun e w' => ∃ j : Nat, e = .returned (.int .i64 (j : Int)) ∧ j ≤ n ∧ (∀ i, i < j → f i = false) ∧ (∀ i, j ≤ i → i < n → f i = true) ∧ Still w w' := by
  have HF := Lib.hid hf
  have HM := Lib.hid hm
  clear hf hm
  go_enter Tryz.func89, Tryz.ntmps89
  go_wp2
  go_loopg [5, 6] n (fun m s5 s6 wr => ∃ lo hi : Nat, s5 = .int .i64 lo ∧ s6 = .int .i64 hi ∧ lo ≤ hi ∧ hi ≤ n ∧ hi - lo ≤ m ∧ (∀ i, i < lo → f i = false) ∧ (∀ i, hi ≤ i → i < n → f i = true) ∧ Still w wr)
  case atStart => exact ⟨0, n, rfl, rfl, Nat.zero_le _, Nat.le_refl _, by omega, fun i h => by omega, fun i h1 h2 => by omega, Still.refl _⟩
  case round =>
    obtain ⟨lo, hi, rfl, rfl, hlh, hin, hg, h1, h2, hs⟩ := hrel
    have H1 := Lib.hid h1
    have H2 := Lib.hid h2
    have HS := Lib.hid hs
    clear h1 h2 hs
    by_cases hlt : lo < hi
    · have HC := Lib.hid (HF.out wr ((lo + hi) / 2) HS.out (by omega))
      have e1 : IntKind.u64.wrap ((lo : Int) + (hi : Int)) = (lo : Int) + (hi : Int) := by rw [IntKind.wrap_u64]; omega
      have e2 : IntKind.i64.wrap ((lo : Int) + (hi : Int)) = (lo : Int) + (hi : Int) := by rw [IntKind.wrap_i64]; omega
      rw [show (((lo + hi) / 2 : Nat) : Int) = ((lo : Int) + (hi : Int)) / 2 by omega] at HC
      obtain ⟨y, hy⟩ : ∃ y, f ((lo + hi) / 2) = y := ⟨_, rfl⟩
      rw [hy] at HC
      have HY := Lib.hid hy
      clear hy
      cases y with
      | false =>
        go_wp2_with fail
        (with_reducible refine HC.out.mono ?_)
        rintro e w1 ⟨rfl, hs1⟩
        have S1 := Lib.hid (HS.out.trans hs1)
        clear hs1
        go_wp2_with fail
        go_roundg (hi - ((lo + hi) / 2 + 1))
        case measure => omega
        case rel =>
          refine ⟨(lo + hi) / 2 + 1, hi, by rw [show ((lo : Int) + (hi : Int)) / 2 + 1 = (((lo + hi) / 2 + 1 : Nat) : Int) by omega], rfl, by omega, hin, Nat.le_refl _, fun i h => ?_, H2.out, S1.out⟩
          cases hfi : f i with
          | false => rfl
          | true => have := HM.out i ((lo + hi) / 2) (by omega) hfi; rw [HY.out] at this; exact this.symm
      | true =>
        go_wp2_with fail
        (with_reducible refine HC.out.mono ?_)
        rintro e w1 ⟨rfl, hs1⟩
        have S1 := Lib.hid (HS.out.trans hs1)
        clear hs1
        go_wp2_with fail
        go_roundg ((lo + hi) / 2 - lo)
        case measure => omega
        case rel => exact ⟨lo, (lo + hi) / 2, rfl, by rw [show ((lo : Int) + (hi : Int)) / 2 = (((lo + hi) / 2 : Nat) : Int) by omega], by omega, by omega, Nat.le_refl _, H1.out, fun i h3 h4 => HM.out _ i h3 HY.out, S1.out⟩
    · have : hi = lo := by omega
      subst this
      go_wp2
      go_ret
      exact ⟨hi, rfl, hin, H1.out, H2.out, by repeat (first | exact HS.out | apply Still.step)⟩

set_option maxRecDepth 100000 in
theorem alike_any (A : Option Addr) (n c B q : Nat) (ps : List PV) (bt : Nat → UInt8) (w : World) (ha : Prs w B A n ps) (hB : B ≤ w.heap.size) (h0 : 0 < n) (hn : n ≤ 1000000)
    (hbt : ∀ i p, ps[i]? = some p → p.key[q]? = some (bt i)) (hm : ∀ i j, i ≤ j → j < n → (bt i).toNat ≤ (bt j).toNat) :
    Calls Tryz.prog 70 #[.slice A n c, .int .i64 (q : Int)] w fun e w' => ∃ j : Nat, e = .returned (.int .i64 (j : Int)) ∧ 0 < j ∧ j ≤ n ∧ (∀ i, i < j → bt i = bt 0) ∧ (∀ i, j ≤ i → i < n → bt i ≠ bt 0) ∧ Below w.heap.size w w' := by
  have HP := Lib.hid ha
  have HBT := Lib.hid hbt
  have HM := Lib.hid hm
  clear ha hbt hm
  go_enter Tryz.func70, Tryz.ntmps70
  obtain ⟨U, hU⟩ : ∃ U, ((w.alloc (.cells #[.slice A n c] 57)).alloc (.cells #[.int .i64 (q : Int)] 3)) = U := ⟨_, rfl⟩
  have bU : Below w.heap.size w U := by
    rw [← hU]
    exact ((Below.refl _ _).alloc (Nat.le_refl _) _).alloc (by simp) _
  have c1 : U.cell? ⟨w.heap.size, 0, none⟩ = some (.slice A n c) := by
    rw [← hU, World.cell?_alloc_lt _ _ _ (by simp)]
    exact (Blk.new w _ #[.slice A n c]).cell 0
  have c2 : U.cell? ⟨w.heap.size + 1, 0, none⟩ = some (.int .i64 (q : Int)) := by
    rw [← hU]
    have : ((w.alloc (.cells #[.slice A n c] 57)).alloc (.cells #[.int .i64 (q : Int)] 3)).cell? ⟨(w.alloc (.cells #[.slice A n c] 57)).heap.size, 0, none⟩ = some (.int .i64 (q : Int)) := (Blk.new (w.alloc (.cells #[.slice A n c] 57)) 3 #[.int .i64 (q : Int)]).cell 0
    rw [World.size_alloc] at this
    exact this
  have HU := Lib.hid hU
  have S := Lib.hid (ssearch_any n w.heap.size (w.heap.size + 1) (fun i => bt (min i (n - 1)) != bt 0) U hn (fun i j hij hf => by
      have h1 := HM.out 0 (min i (n - 1)) (by omega) (by omega)
      have h2 := HM.out (min i (n - 1)) (min j (n - 1)) (by omega) (by omega)
      have h3 : bt (min i (n - 1)) ≠ bt 0 := by simpa using hf
      have h4 : bt (min j (n - 1)) ≠ bt 0 := fun e => by
        rw [e] at h2
        exact h3 (UInt8.toNat_inj.1 (by omega))
      simpa using h4) (fun W i hs hi => by
      have k : Kept (fun _ => False) U W := Kept.still hs
      have := alike1_any A n c B q i w.heap.size (w.heap.size + 1) ps bt W ((HP.out.below (bU.mono hB)).below (hs.below _)) h0 hi HBT.out ((k.cell (by exact lt_cell c1) (fun q => q)).trans c1) ((k.cell (by exact lt_cell c2) (fun q => q)).trans c2)
      rw [show min i (n - 1) = i by omega]
      exact this))
  have BU := Lib.hid bU
  clear hU bU c1 c2
  go_wp2_with fail
  rw [HU.out]
  (with_reducible refine S.out.mono ?_)
  rintro e w1 ⟨j, rfl, j1, j2, j3, j4⟩
  have HE := Lib.hid (show 0 < j ∧ j ≤ n ∧ (∀ i, i < j → bt i = bt 0) ∧ (∀ i, j ≤ i → i < n → bt i ≠ bt 0) ∧ Below w.heap.size w w1 from by
    refine ⟨?_, j1, fun i hi => ?_, fun i h1 h2 => ?_, BU.out.trans (j4.below _)⟩
    · rcases Nat.eq_zero_or_pos j with e | e
      · subst e
        have := j3 0 (Nat.le_refl _) h0
        simp at this
      · exact e
    · have := j2 i hi
      rw [show min i (n - 1) = i by omega] at this
      simpa using this
    · have := j3 i h1 h2
      rw [show min i (n - 1) = i by omega] at this
      simpa using this)
  clear S j1 j2 j3 j4
  go_wp2
  go_ret
  exact ⟨j, rfl, HE.out⟩
end Go.Proofs.YtajpipaooaemdaaGreatDoor

namespace Go.Proofs.YtajpipaooaemdaaGreatDoor
open Go.RowKit

abbrev KV := List UInt8 × Int
def gput (b : UInt8) (p : KV) : List (UInt8 × List KV) → List (UInt8 × List KV)
  | (b', g) :: gs => if b = b' then (b, p :: g) :: gs else (b, [p]) :: (b', g) :: gs
  | [] => [(b, [p])]
/-- Pairs by their keys' first bytes, which are taken off. -/
def grp : List KV → List (UInt8 × List KV)
  | [] => []
  | (b :: k, v) :: r => gput b (k, v) (grp r)
  | ([], _) :: r => grp r
def mkF (c : List KV → Nn × Fo) : List (UInt8 × List KV) → Fo
  | [] => .nil
  | (b, g) :: gs => .cons b (c g).1 (c g).2 (mkF c gs)
def cut (e : Nat) (ps : List KV) : List KV := ps.map fun p => (p.1.drop e, p.2)
/-- The canonical tree of pairs that rise; ow: the nodes' owner. -/
def cT (ow : Int) : Nat → List KV → Nn × Fo
  | f + 1, p :: q :: r =>
    let e := lcp p.1 ((q :: r).getLast (by simp)).1
    if p.1.length = e then (⟨false, ow, p.1.take e, p.2, true⟩, mkF (cT ow f) (grp (cut e (q :: r))))
    else (⟨false, ow, p.1.take e, 0, false⟩, mkF (cT ow f) (grp (cut e (p :: q :: r))))
  | _, p :: _ => (⟨true, ow, p.1, p.2, true⟩, .nil)
  | _, [] => (⟨true, ow, [], 0, true⟩, .nil)

theorem lcp_same {a : UInt8} {l m : List UInt8} : lcp (a :: l) (a :: m) = lcp l m + 1 := by simp [lcp]
theorem lcp_ne {a b : UInt8} {l m : List UInt8} (h : a ≠ b) : lcp (a :: l) (b :: m) = 0 := by simp [lcp, h]
/-- Keys rise. -/
def Rise (ps : List KV) : Prop := ps.Pairwise fun a b => cmpL a.1 b.1 < 0
theorem lt_cons {a b : UInt8} {l m : List UInt8} : cmpL (a :: l) (b :: m) < 0 ↔ a.toNat < b.toNat ∨ (a = b ∧ cmpL l m < 0) := by
  rw [show cmpL (a :: l) (b :: m) = if a = b then cmpL l m else if a.toNat < b.toNat then -1 else 1 from rfl]
  by_cases h : a = b
  · subst h; simp
  · simp only [h, if_false, false_and, or_false]
    split <;> omega
theorem lt_nil {l : List UInt8} : ¬ cmpL l [] < 0 := by cases l <;> simp [cmpL]
theorem lt_trans : ∀ {l m k : List UInt8}, cmpL l m < 0 → cmpL m k < 0 → cmpL l k < 0
  | l, m, [], _, h2 => (lt_nil h2).elim
  | l, [], _ :: _, h1, _ => (lt_nil h1).elim
  | [], _ :: _, _ :: _, _, _ => by simp [cmpL]
  | a :: l, b :: m, c :: k, h1, h2 => by
    rw [lt_cons] at h1 h2 ⊢
    rcases h1 with h1 | ⟨rfl, h1⟩
    · rcases h2 with h2 | ⟨rfl, h2⟩
      · exact .inl (Nat.lt_trans h1 h2)
      · exact .inl h1
    · rcases h2 with h2 | ⟨rfl, h2⟩
      · exact .inl h2
      · exact .inr ⟨rfl, lt_trans h1 h2⟩
/-- What the first one and the last one have in common all have that stand between. -/
theorem lcp_mid : ∀ {p u z : List UInt8}, cmpL p u < 0 → (cmpL u z < 0 ∨ u = z) → lcp p z ≤ lcp p u
  | [], _, _, _, _ => by simp [lcp]
  | _ :: _, [], _, h, _ => (lt_nil h).elim
  | _ :: _, _ :: _, [], _, _ => by simp [lcp]
  | a :: p, b :: u, c :: z, h1, h2 => by
    rw [lt_cons] at h1
    by_cases hac : a = c
    · subst hac
      have hab : a = b := by
        rcases h1 with h1 | ⟨h1, _⟩
        · rcases h2 with h2 | h2
          · rw [lt_cons] at h2
            rcases h2 with h2 | ⟨h2, _⟩
            · omega
            · exact h2.symm
          · injection h2 with h2 _; exact h2.symm
        · exact h1
      subst hab
      rw [lcp_same, lcp_same]
      have h1' : cmpL p u < 0 := by
        rcases h1 with h1 | ⟨_, h1⟩
        · omega
        · exact h1
      refine Nat.succ_le_succ (lcp_mid h1' ?_)
      rcases h2 with h2 | h2
      · rw [lt_cons] at h2
        rcases h2 with h2 | ⟨_, h2⟩
        · omega
        · exact .inl h2
      · injection h2 with _ h2; exact .inr h2
    · rw [lcp_ne hac]; exact Nat.zero_le _
theorem lcp_lt : ∀ {p u : List UInt8}, cmpL p u < 0 → lcp p u < u.length
  | _, [], h => (lt_nil h).elim
  | [], _ :: _, _ => by simp [lcp]
  | a :: p, b :: u, h => by
    rw [lt_cons] at h
    rcases h with h | ⟨rfl, h⟩
    · have : a ≠ b := fun e => by subst e; omega
      simp [lcp, this]
    · simp only [lcp, if_true, List.length_cons]
      exact Nat.succ_lt_succ (lcp_lt h)
theorem lcp_tri : ∀ {p u v : List UInt8} {e : Nat}, e ≤ lcp p u → e ≤ lcp p v → e ≤ lcp u v
  | _, _, _, 0, _, _ => Nat.zero_le _
  | [], _, _, _ + 1, h, _ => by simp [lcp] at h
  | _ :: _, [], _, _ + 1, h, _ => by simp [lcp] at h
  | _ :: _, _ :: _, [], _ + 1, _, h => by simp [lcp] at h
  | a :: p, b :: u, c :: v, e + 1, h1, h2 => by
    by_cases hb : a = b
    · subst hb
      by_cases hc : a = c
      · subst hc
        rw [lcp_same] at h1 h2 ⊢
        exact Nat.succ_le_succ (lcp_tri (Nat.le_of_succ_le_succ h1) (Nat.le_of_succ_le_succ h2))
      · rw [lcp_ne hc] at h2; omega
    · rw [lcp_ne hb] at h1; omega
theorem cmpL_drop : ∀ {u v : List UInt8} {e : Nat}, e ≤ lcp u v → cmpL u v = cmpL (u.drop e) (v.drop e)
  | _, _, 0, _ => by simp
  | [], _, _ + 1, h => by simp [lcp] at h
  | _ :: _, [], _ + 1, h => by simp [lcp] at h
  | a :: u, b :: v, e + 1, h => by
    unfold lcp at h
    split at h
    · rename_i hb
      subst hb
      rw [List.drop_succ_cons, List.drop_succ_cons, ← cmpL_drop (Nat.le_of_succ_le_succ h)]
      simp [cmpL]
    · omega
theorem cut_rise {e : Nat} {ps : List KV} (p : List UInt8) (h : Rise ps) (ha : ∀ u ∈ ps, e ≤ lcp p u.1) : Rise (cut e ps) := by
  unfold Rise cut at *
  rw [List.pairwise_map]
  refine h.imp_of_mem fun ha' hb hab => ?_
  rw [← cmpL_drop (lcp_tri (ha _ ha') (ha _ hb))]
  exact hab
/-- All pairs' keys begin alike for as long as the first one's and the last one's do; but for the first one they go on. -/
theorem rise_ends {p q : KV} {r : List KV} (h : Rise (p :: q :: r)) : ∀ u ∈ q :: r, lcp p.1 ((q :: r).getLast (by simp)).1 ≤ lcp p.1 u.1 ∧ lcp p.1 ((q :: r).getLast (by simp)).1 < u.1.length := by
  intro u hu
  obtain ⟨h1, h2⟩ := List.pairwise_cons.1 h
  have hl : ∀ (l : List KV) (hn : l ≠ []), Rise l → ∀ u ∈ l, cmpL u.1 (l.getLast hn).1 < 0 ∨ u.1 = (l.getLast hn).1 := by
    intro l
    induction l with
    | nil => intro hn; exact absurd rfl hn
    | cons a l ih =>
      intro hn hr u hu
      cases l with
      | nil => simp at hu; subst hu; exact .inr rfl
      | cons b l =>
        obtain ⟨g1, g2⟩ := List.pairwise_cons.1 hr
        rw [List.getLast_cons (by simp)]
        rcases List.mem_cons.1 hu with rfl | hu
        · exact .inl (g1 _ (List.getLast_mem _))
        · exact ih (by simp) g2 u hu
  have := lcp_mid (h1 u hu) (hl _ (by simp) h2 u hu)
  exact ⟨this, Nat.lt_of_le_of_lt this (lcp_lt (h1 u hu))⟩

theorem gput_head (b : UInt8) (p : KV) (gs : List (UInt8 × List KV)) : ∃ g r, gput b p gs = (b, g) :: r := by
  cases gs with
  | nil => exact ⟨_, _, rfl⟩
  | cons x r =>
    obtain ⟨b', g⟩ := x
    by_cases h : b = b'
    · exact ⟨p :: g, r, by simp [gput, h]⟩
    · exact ⟨[p], (b', g) :: r, by simp [gput, h]⟩
theorem gput_far {b b' : UInt8} (p : KV) {g : List KV} {r : List (UInt8 × List KV)} (h : b ≠ b') : gput b p ((b', g) :: r) = (b, [p]) :: (b', g) :: r := by simp [gput, h]
theorem gput_same (b : UInt8) (p : KV) (g : List KV) (r : List (UInt8 × List KV)) : gput b p ((b, g) :: r) = (b, p :: g) :: r := by simp [gput]
/-- The first group is of all that begin with its byte; the others are those of what is left. -/
theorem grp_step {b : UInt8} {rest : List KV} (hr : ∀ p r, rest = p :: r → ∃ b' k, p.1 = b' :: k ∧ b ≠ b') : ∀ g : List KV, g ≠ [] → grp (g.map (fun p => (b :: p.1, p.2)) ++ rest) = (b, g) :: grp rest
  | [], h => absurd rfl h
  | [(k, v)], _ => by
    show gput b (k, v) (grp rest) = _
    cases rest with
    | nil => rfl
    | cons p r =>
      obtain ⟨b', k', e, hne⟩ := hr p r rfl
      obtain ⟨pk, pv⟩ := p
      simp only at e
      subst e
      rw [show grp ((b' :: k', pv) :: r) = gput b' (k', pv) (grp r) from rfl]
      obtain ⟨g, gs, hg⟩ := gput_head b' (k', pv) (grp r)
      rw [hg, gput_far _ hne]
  | (k, v) :: q :: g, _ => by
    have ih := grp_step hr (q :: g) (by simp)
    show gput b (k, v) (grp ((q :: g).map (fun p => (b :: p.1, p.2)) ++ rest)) = _
    rw [ih, gput_same]

def Fo.app : Fo → Fo → Fo
  | .nil, s => s
  | .cons b x k r, s => .cons b x k (r.app s)
theorem Fo.app_nil : ∀ d : Fo, d.app .nil = d
  | .nil => rfl
  | .cons b x k r => by rw [Fo.app, Fo.app_nil r]
theorem Fo.app_app : ∀ d e s : Fo, (d.app e).app s = d.app (e.app s)
  | .nil, _, _ => rfl
  | .cons b x k r, e, s => by simp only [Fo.app, Fo.app_app r e s]
theorem Fo.len_app : ∀ d s : Fo, (d.app s).len = d.len + s.len
  | .nil, s => by simp [Fo.app, Fo.len]
  | .cons b x k r, s => by simp only [Fo.app, Fo.len, Fo.len_app r s]; omega
/-- How many nodes. -/
def Fo.tn : Fo → Nat
  | .nil => 0
  | .cons _ _ k r => 1 + k.tn + r.tn
theorem Fo.tn_app : ∀ d s : Fo, (d.app s).tn = d.tn + s.tn
  | .nil, s => by simp [Fo.app, Fo.tn]
  | .cons b x k r, s => by simp only [Fo.app, Fo.tn, Fo.tn_app r s]; omega
theorem Fo.Is.app {w : World} {S : Nat → Prop} : ∀ {d s : Fo} {es fs : List Ent}, d.Is w S es → s.Is w S fs → (d.app s).Is w S (es ++ fs)
  | .nil, _, _, _, h, h' => by obtain rfl : _ = [] := h; exact h'
  | .cons _ _ _ _, _, _, _, ⟨g, be, A, ek, er, e, h1, h2, h3, h4⟩, h' => ⟨g, be, A, ek, er ++ _, by rw [e]; rfl, h1, h2, h3, Fo.Is.app h4 h'⟩
theorem set_end {es : List Ent} (b : UInt8) (x : Th) (h : ∀ e ∈ es, e.1.toNat < b.toNat) : setE es b x = es ++ [(b, x)] := by
  have hp : pos es b.toNat = es.length := by
    unfold pos
    rw [List.countP_eq_length]
    intro e he
    exact decide_eq_true (h e he)
  have hh : hasE es b.toNat = false := by
    unfold hasE look
    rw [hp, List.getElem?_eq_none (Nat.le_refl _)]
    rfl
  unfold setE
  rw [hh, hp]
  simp
end Go.Proofs.YtajpipaooaemdaaGreatDoor

namespace Go.Proofs.YtajpipaooaemdaaGreatDoor
open Go.RowKit

/-- None of a forest's nodes is the owner's. -/
def Fo.no (o : Int) : Fo → Prop
  | .nil => True
  | .cons _ x k r => x.ow ≠ o ∧ k.no o ∧ r.no o
def Fo.Ow (w : World) (o : Int) (S : Nat → Prop) : Fo → List Ent → (Nat → Prop) → Prop
  | .nil, es, _ => es = []
  | .cons b x k r, es, D => ∃ (g : Nat) (er : List Ent) (D1 D2 : Nat → Prop), es = (b, some ⟨g, 0, none⟩) :: er ∧
      ((x.ow = o ∧ ∃ (be : Be) (A : Option Addr) (ek : List Ent) (De Dk : Nat → Prop), Nod w g (x.nd ek) be A ∧ (∀ i, be.all g i → De i) ∧ (∀ i, Pb A x.part i → S i ∨ De i) ∧ Fo.Ow w o S k ek Dk ∧ (∀ i, De i → D1 i) ∧ (∀ i, Dk i → D1 i) ∧ (∀ i, De i → ¬ Dk i)) ∨ (x.ow ≠ o ∧ k.no o ∧ Tre w S x k g)) ∧
      Fo.Ow w o S r er D2 ∧ (∀ i, D1 i → D i) ∧ (∀ i, D2 i → D i) ∧ (∀ i, D1 i → ¬ D2 i)
def TOw (w : World) (o : Int) (S : Nat → Prop) (x : Nn) (k : Fo) (g : Nat) (D : Nat → Prop) : Prop :=
  (x.ow = o ∧ ∃ (be : Be) (A : Option Addr) (ek : List Ent) (De Dk : Nat → Prop), Nod w g (x.nd ek) be A ∧ (∀ i, be.all g i → De i) ∧ (∀ i, Pb A x.part i → S i ∨ De i) ∧ Fo.Ow w o S k ek Dk ∧ (∀ i, De i → D i) ∧ (∀ i, Dk i → D i) ∧ (∀ i, De i → ¬ Dk i)) ∨ (x.ow ≠ o ∧ k.no o ∧ Tre w S x k g)
section
variable {w w' : World} {o : Int} {S S' D D' : Nat → Prop}
theorem Fo.Ow.cons {b : UInt8} {x : Nn} {k r : Fo} {g : Nat} {er : List Ent} {D1 D2 : Nat → Prop} (h : TOw w o S x k g D1) (hr : r.Ow w o S er D2) (h1 : ∀ i, D1 i → D i) (h2 : ∀ i, D2 i → D i) (h3 : ∀ i, D1 i → ¬ D2 i) :
    (Fo.cons b x k r).Ow w o S ((b, some ⟨g, 0, none⟩) :: er) D := ⟨g, er, D1, D2, rfl, h, hr, h1, h2, h3⟩
theorem Fo.Ow.mono : ∀ {f : Fo} {es : List Ent} {D D' : Nat → Prop}, (∀ i, D i → D' i) → f.Ow w o S es D → f.Ow w o S es D'
  | .nil, _, _, _, _, h => h
  | .cons _ _ _ _, _, _, _, hD, ⟨g, er, D1, D2, e, h, hr, h1, h2, h3⟩ => ⟨g, er, D1, D2, e, h, hr, fun i q => hD i (h1 i q), fun i q => hD i (h2 i q), h3⟩
theorem TOw.mono {x : Nn} {k : Fo} {g : Nat} (hD : ∀ i, D i → D' i) (h : TOw w o S x k g D) : TOw w o S x k g D' := by
  rcases h with ⟨e, be, A, ek, De, Dk, n, a1, a2, a3, a4, a5, a6⟩ | h
  · exact .inl ⟨e, be, A, ek, De, Dk, n, a1, a2, a3, fun i q => hD i (a4 i q), fun i q => hD i (a5 i q), a6⟩
  · exact .inr h
theorem Fo.Ow.is : ∀ {f : Fo} {es : List Ent} {D : Nat → Prop}, f.Ow w o S es D → f.Is w (fun i => S i ∨ D i) es
  | .nil, _, _, h => h
  | .cons _ _ k r, _, D, ⟨g, er, D1, D2, e, h, hr, h1, h2, h3⟩ => by
    have i2 := (Fo.Ow.is hr).mono (S' := fun i => S i ∨ D i) (fun i q => q.imp id (h2 i))
    rcases h with ⟨_, be, A, ek, De, Dk, n, a1, a2, a3, a4, a5, _⟩ | ⟨_, _, be, A, ek, n, a1, a2⟩
    · exact ⟨g, be, A, ek, er, e, n, fun i q => q.elim (fun z => .inr (h1 i (a4 i (a1 i z)))) (fun z => (a2 i z).imp id (fun y => h1 i (a4 i y))), (Fo.Ow.is a3).mono (fun i q => q.imp id (fun z => h1 i (a5 i z))), i2⟩
    · exact ⟨g, be, A, ek, er, e, n, fun i q => .inl (a1 i q), a2.mono (fun i q => .inl q), i2⟩
theorem TOw.tre {x : Nn} {k : Fo} {g : Nat} (h : TOw w o S x k g D) : Tre w (fun i => S i ∨ D i) x k g := by
  rcases h with ⟨_, be, A, ek, De, Dk, n, a1, a2, a3, a4, a5, _⟩ | ⟨_, _, h⟩
  · exact ⟨be, A, ek, n, fun i q => q.elim (fun z => .inr (a4 i (a1 i z))) (fun z => (a2 i z).imp id (a4 i)), a3.is.mono (fun i q => q.imp id (a5 i))⟩
  · exact h.mono (fun i q => .inl q)
theorem Fo.Ow.more (hS : ∀ i, S i → S' i) : ∀ {f : Fo} {es : List Ent} {D : Nat → Prop}, f.Ow w o S es D → f.Ow w o S' es D
  | .nil, _, _, h => h
  | .cons _ _ _ _, _, _, ⟨g, er, D1, D2, e, h, hr, h1, h2, h3⟩ => by
    refine ⟨g, er, D1, D2, e, ?_, Fo.Ow.more hS hr, h1, h2, h3⟩
    rcases h with ⟨q, be, A, ek, De, Dk, n, a1, a2, a3, a4⟩ | ⟨q, q2, h⟩
    · exact .inl ⟨q, be, A, ek, De, Dk, n, a1, fun i z => (a2 i z).imp (hS i) id, Fo.Ow.more hS a3, a4⟩
    · exact .inr ⟨q, q2, h.mono hS⟩
theorem TOw.more {x : Nn} {k : Fo} {g : Nat} (hS : ∀ i, S i → S' i) (h : TOw w o S x k g D) : TOw w o S' x k g D := by
  rcases h with ⟨q, be, A, ek, De, Dk, n, a1, a2, a3, a4⟩ | ⟨q, q2, h⟩
  · exact .inl ⟨q, be, A, ek, De, Dk, n, a1, fun i z => (a2 i z).imp (hS i) id, a3.more hS, a4⟩
  · exact .inr ⟨q, q2, h.mono hS⟩
theorem Fo.Ow.kept {N : Nat → Prop} (hk : Kept N w w') (hS : ∀ i, S i → ¬ N i) : ∀ {f : Fo} {es : List Ent} {D : Nat → Prop}, (∀ i, D i → ¬ N i) → f.Ow w o S es D → f.Ow w' o S es D
  | .nil, _, _, _, h => h
  | .cons _ _ _ _, _, _, hD, ⟨g, er, D1, D2, e, h, hr, h1, h2, h3⟩ => by
    refine ⟨g, er, D1, D2, e, ?_, Fo.Ow.kept hk hS (fun i q => hD i (h2 i q)) hr, h1, h2, h3⟩
    rcases h with ⟨q, be, A, ek, De, Dk, n, a1, a2, a3, a4, a5, a6⟩ | ⟨q, q2, h⟩
    · exact .inl ⟨q, be, A, ek, De, Dk, n.kept hk (fun i z => z.elim (fun y => hD i (h1 i (a4 i (a1 i y)))) (fun y => (a2 i y).elim (hS i) (fun t => hD i (h1 i (a4 i t))))), a1, a2, Fo.Ow.kept hk hS (fun i z => hD i (h1 i (a5 i z))) a3, a4, a5, a6⟩
    · exact .inr ⟨q, q2, h.kept hk hS⟩
theorem TOw.kept {N : Nat → Prop} {x : Nn} {k : Fo} {g : Nat} (hk : Kept N w w') (hS : ∀ i, S i → ¬ N i) (hD : ∀ i, D i → ¬ N i) (h : TOw w o S x k g D) : TOw w' o S x k g D := by
  rcases h with ⟨q, be, A, ek, De, Dk, n, a1, a2, a3, a4, a5, a6⟩ | ⟨q, q2, h⟩
  · exact .inl ⟨q, be, A, ek, De, Dk, n.kept hk (fun i z => z.elim (fun y => hD i (a4 i (a1 i y))) (fun y => (a2 i y).elim (hS i) (fun t => hD i (a4 i t)))), a1, a2, a3.kept hk hS (fun i z => hD i (a5 i z)), a4, a5, a6⟩
  · exact .inr ⟨q, q2, h.kept hk hS⟩
/-- It lies in blocks that are there. -/
theorem Fo.Ow.there : ∀ {f : Fo} {es : List Ent} {D : Nat → Prop}, f.Ow w o S es D → f.Ow w o S es (fun i => D i ∧ i < w.heap.size)
  | .nil, _, _, h => h
  | .cons _ _ _ _, _, _, ⟨g, er, D1, D2, e, h, hr, h1, h2, h3⟩ => by
    refine ⟨g, er, (fun i => D1 i ∧ i < w.heap.size), (fun i => D2 i ∧ i < w.heap.size), e, ?_, Fo.Ow.there hr, fun i q => ⟨h1 i q.1, q.2⟩, fun i q => ⟨h2 i q.1, q.2⟩, fun i q z => h3 i q.1 z.1⟩
    rcases h with ⟨q, be, A, ek, De, Dk, n, a1, a2, a3, a4, a5, a6⟩ | h
    · exact .inl ⟨q, be, A, ek, (fun i => De i ∧ i < w.heap.size), (fun i => Dk i ∧ i < w.heap.size), n, fun i z => ⟨a1 i z, n.lt z⟩, fun i z => (a2 i z).imp id (fun y => ⟨y, n.ltA z⟩), Fo.Ow.there a3, fun i z => ⟨a4 i z.1, z.2⟩, fun i z => ⟨a5 i z.1, z.2⟩, fun i z y => a6 i z.1 y.1⟩
    · exact .inr h
theorem TOw.there {x : Nn} {k : Fo} {g : Nat} (h : TOw w o S x k g D) : TOw w o S x k g (fun i => D i ∧ i < w.heap.size) := by
  rcases h with ⟨q, be, A, ek, De, Dk, n, a1, a2, a3, a4, a5, a6⟩ | h
  · exact .inl ⟨q, be, A, ek, (fun i => De i ∧ i < w.heap.size), (fun i => Dk i ∧ i < w.heap.size), n, fun i z => ⟨a1 i z, n.lt z⟩, fun i z => (a2 i z).imp id (fun y => ⟨y, n.ltA z⟩), a3.there, fun i z => ⟨a4 i z.1, z.2⟩, fun i z => ⟨a5 i z.1, z.2⟩, fun i z y => a6 i z.1 y.1⟩
  · exact .inr h
theorem Fo.Ow.app {s : Fo} {fs : List Ent} {Ds : Nat → Prop} (hs : s.Ow w o S fs Ds) : ∀ {d : Fo} {es : List Ent} {Dd D : Nat → Prop}, d.Ow w o S es Dd → (∀ i, Dd i → ¬ Ds i) → (∀ i, Dd i → D i) → (∀ i, Ds i → D i) → (d.app s).Ow w o S (es ++ fs) D
  | .nil, _, _, _, h, _, _, h2 => by
    obtain rfl : _ = [] := h
    exact hs.mono h2
  | .cons _ _ _ _, _, Dd, D, ⟨g, er, D1, D2, e, h, hr, h1, h2, h3⟩, q0, q1, q2 => by
    refine ⟨g, er ++ fs, D1, (fun i => D2 i ∨ Ds i), by rw [e]; rfl, h, Fo.Ow.app hs hr (fun i z => q0 i (h2 i z)) (fun i z => .inl z) (fun i z => .inr z), fun i z => q1 i (h1 i z), fun i z => z.elim (fun y => q1 i (h2 i y)) (q2 i), fun i z y => ?_⟩
    rcases y with y | y
    · exact h3 i z y
    · exact q0 i (h1 i z) y
/-- A node alone. -/
theorem TOw.leaf {x : Nn} {g : Nat} {be : Be} {A : Option Addr} (ho : x.ow = o) (h : Nod w g (x.nd []) be A) (h1 : ∀ i, be.all g i → D i) (h2 : ∀ i, Pb A x.part i → S i ∨ D i) : TOw w o S x .nil g D :=
  .inl ⟨ho, be, A, [], D, (fun _ => False), h, h1, h2, rfl, fun _ q => q, fun _ q => q.elim, fun _ _ q => q⟩
end
end Go.Proofs.YtajpipaooaemdaaGreatDoor

namespace Go.Proofs.YtajpipaooaemdaaGreatDoor
open Go.RowKit

abbrev cutA (A : Option Addr) (i c k : Nat) : Option Addr := if c = i then A else A.map (·.add (i * k))
section
variable {P : Program} {t e : TypeId} {k : Nat}
theorem run_size_k (hsz : (P.info? e).map (·.size) = some k) (W : World) : (sizeOf e).run P W = .ok k W := by
  rcases h : P.info? e with _ | i
  · rw [h] at hsz; cases hsz
  · rw [h] at hsz
    simp only [Option.map_some, Option.some.injEq] at hsz
    simp [sizeOf, typeInfo, h, hsz]
theorem slc_from (ht : P.underlying t = some (.slice e)) (hsz : (P.info? e).map (·.size) = some k) (A : Option Addr) (n c i : Nat) (hi : i ≤ n) (W : World) :
    (Instr.slice t (.slice A n c) (some (.int .i64 (i : Int))) none none).run P W = .ok (.slice (cutA A i c k) (n - i) (c - i)) W := by
  have he : P.elem t = e := by simp [Program.elem, ht]
  rw [run_slice_l W t A n c (by rw [he]; exact ht) .i64 (i : Int) (by omega) (by omega), he, run_size_k hsz]
  simp [sliced]
theorem slc_mid (ht : P.underlying t = some (.slice e)) (hsz : (P.info? e).map (·.size) = some k) (A : Option Addr) (n c i j : Nat) (hi : i ≤ j) (hj : j ≤ c) (W : World) :
    (Instr.slice t (.slice A n c) (some (.int .i64 (i : Int))) (some (.int .i64 (j : Int))) none).run P W = .ok (.slice (cutA A i c k) (j - i) (c - i)) W := by
  have he : P.elem t = e := by simp [Program.elem, ht]
  rw [run_slice_lh W t A n c (by rw [he]; exact ht) .i64 .i64 (i : Int) (j : Int) (by omega) (by omega) (by omega), he, run_size_k hsz]
  simp [sliced]
theorem slc_upto (ht : P.underlying t = some (.slice e)) (hsz : (P.info? e).map (·.size) = some k) (A : Option Addr) (n c j : Nat) (hj : j ≤ c) (W : World) :
    (Instr.slice t (.slice A n c) none (some (.int .i64 (j : Int))) none).run P W = .ok (.slice A j c) W := by
  have he : P.elem t = e := by simp [Program.elem, ht]
  rw [run_slice_h W t A n c (by rw [he]; exact ht) .i64 (j : Int) (by omega) (by omega), he, run_size_k hsz]
  cases A <;> simp [sliced, Addr.add]
end
theorem block_cutA {A : Option Addr} {i c k b : Nat} (h : ∃ ad, cutA A i c k = some ad ∧ ad.block = b) : ∃ ad, A = some ad ∧ ad.block = b := by
  obtain ⟨ad, h1, h2⟩ := h
  unfold cutA at h1
  split at h1
  · exact ⟨ad, h1, h2⟩
  · cases A with
    | none => cases h1
    | some a =>
      simp only [Option.map_some, Option.some.injEq] at h1
      subst h1
      exact ⟨a, rfl, by rw [← h2, block_of_add]⟩
theorem Byt.cut_ {w : World} {B n c : Nat} {A : Option Addr} {l : List UInt8} (h : Byt w B A n l) (i j : Nat) (hi : i ≤ j) (hj : j ≤ n) (hc : n ≤ c) : Byt w B (cutA A i c 1) (j - i) ((l.take j).drop i) := by
  have ht := h.take hj
  unfold cutA
  by_cases hic : c = i
  · have : j - i = 0 := by omega
    rw [this, List.drop_of_length_le (by have := ht.1; omega)]
    exact Byt.none_
  · rw [if_neg hic]
    cases A with
    | none =>
      have h0 : j = 0 := by
        rcases Nat.eq_zero_or_pos j with e | e
        · exact e
        · obtain ⟨_, q, _⟩ := ht.2.2 e; cases q
      subst h0
      simp only [Nat.zero_sub, List.take_zero, List.drop_nil]
      exact Byt.none_
    | some ad =>
      rw [Option.map_some, Nat.mul_one]
      exact ht.drop hi
theorem Pb.cut_ {A : Option Addr} {l : List UInt8} {i j c b : Nat} (h : Pb (cutA A i c 1) ((l.take j).drop i) b) : Pb A l b := by
  refine ⟨fun q => h.1 (by rw [q]; simp), block_cutA h.2⟩
theorem Prs.take {w : World} {B n k : Nat} {A : Option Addr} {ps : List PV} (h : Prs w B A n ps) (hk : k ≤ n) : Prs w B A k (ps.take k) := by
  have hg : ∀ (j : Nat) (p : PV), (ps.take k)[j]? = some p → ps[j]? = some p := fun j p hp => by
    rw [List.getElem?_take] at hp
    split at hp
    · exact hp
    · cases hp
  refine ⟨by have := h.1; simp; omega, by have := h.2.1; omega, fun j p hp => h.2.2.1 j p (hg j p hp), fun hn => ?_⟩
  obtain ⟨ad, e, hb, hc⟩ := h.2.2.2 (by omega)
  exact ⟨ad, e, hb, fun j p hp => hc j p (hg j p hp)⟩
theorem Prs.cut_ {w : World} {B n c : Nat} {A : Option Addr} {ps : List PV} (h : Prs w B A n ps) (i : Nat) (hi : i ≤ n) (hc : n ≤ c) : Prs w B (cutA A i c 2) (n - i) (ps.drop i) := by
  refine ⟨by have := h.1; simp; omega, by have := h.2.1; omega, fun j p hp => h.2.2.1 (i + j) p (by rw [← List.getElem?_drop]; exact hp), fun hn => ?_⟩
  obtain ⟨ad, e, hb, hcc⟩ := h.2.2.2 (by omega)
  subst e
  refine ⟨ad.add (i * 2), by unfold cutA; rw [if_neg (by omega)]; rfl, by rw [block_of_add]; exact hb, fun j p hp => ?_⟩
  have := hcc (i + j) p (by rw [← List.getElem?_drop]; exact hp)
  rw [add_of_add, add_of_add, show i * 2 + j * 2 = (i + j) * 2 by omega, show i * 2 + (j * 2 + 1) = (i + j) * 2 + 1 by omega]
  exact this

/-- Pairs as the keys' rests behind the first q bytes. -/
def rel (q : Nat) (ps : List PV) : List KV := ps.map fun p => (p.key.drop q, p.val)
theorem cut_rel (e q : Nat) (ps : List PV) : cut e (rel q ps) = rel (q + e) ps := by simp [cut, rel, List.drop_drop]
theorem rel_len (q : Nat) (ps : List PV) : (rel q ps).length = ps.length := by simp [rel]
theorem drop_head {l : List UInt8} {e : Nat} {b : UInt8} (h : l[e]? = some b) : l.drop e = b :: l.drop (e + 1) := by
  obtain ⟨h1, h2⟩ := List.getElem?_eq_some_iff.1 h
  rw [List.drop_eq_getElem_cons h1, h2]
theorem mem_take_at {α : Type} {l : List α} {j : Nat} {a : α} (h : a ∈ l.take j) : ∃ i, i < j ∧ l[i]? = some a := by
  obtain ⟨i, hi⟩ := List.mem_iff_getElem?.1 h
  rw [List.getElem?_take] at hi
  split at hi
  · rename_i h2; exact ⟨i, h2, hi⟩
  · cases hi
section
variable {e1 : Nat} {qs : List PV} {bt : Nat → UInt8} (hbt : ∀ i p, qs[i]? = some p → p.key[e1]? = some (bt i))
include hbt
theorem rise_mono (h : Rise (rel e1 qs)) : ∀ i j, i ≤ j → j < qs.length → (bt i).toNat ≤ (bt j).toNat := by
  intro i j hij hj
  rcases Nat.lt_or_ge i j with hl | hl
  · have h1 : i < qs.length := by omega
    have := List.pairwise_iff_getElem.1 h i j (by rw [rel_len]; omega) (by rw [rel_len]; omega) hl
    unfold rel at this
    rw [List.getElem_map, List.getElem_map] at this
    dsimp only at this
    rw [drop_head (hbt i _ (List.getElem?_eq_getElem h1)), drop_head (hbt j _ (List.getElem?_eq_getElem hj)), lt_cons] at this
    rcases this with q | ⟨q, _⟩
    · omega
    · rw [q]; exact Nat.le_refl _
  · have : i = j := by omega
    subst this
    exact Nat.le_refl _
theorem rise_same (h : Rise (rel e1 qs)) {j : Nat} (hs : ∀ i, i < j → bt i = bt 0) : Rise (rel (e1 + 1) (qs.take j)) := by
  unfold Rise rel at *
  rw [List.pairwise_map] at h ⊢
  refine (h.sublist (List.take_sublist j qs)).imp_of_mem fun {a b} ha hb hab => ?_
  obtain ⟨x, hx, gx⟩ := mem_take_at ha
  obtain ⟨y, hy, gy⟩ := mem_take_at hb
  dsimp only at hab
  rw [drop_head (hbt x _ gx), drop_head (hbt y _ gy), hs x hx, hs y hy, lt_cons] at hab
  rcases hab with q | ⟨_, q⟩
  · omega
  · exact q
theorem grp_rel {j : Nat} (h0 : 0 < j) (hj : j ≤ qs.length) (hs : ∀ i, i < j → bt i = bt 0) (hn : ∀ i, j ≤ i → i < qs.length → bt i ≠ bt 0) :
    grp (rel e1 qs) = (bt 0, rel (e1 + 1) (qs.take j)) :: grp (rel e1 (qs.drop j)) := by
  have e : rel e1 qs = (rel (e1 + 1) (qs.take j)).map (fun p => (bt 0 :: p.1, p.2)) ++ rel e1 (qs.drop j) := by
    conv => lhs; rw [← List.take_append_drop j qs]
    unfold rel
    rw [List.map_append, List.map_map]
    congr 1
    refine List.map_congr_left fun p hp => ?_
    obtain ⟨x, hx, gx⟩ := mem_take_at hp
    simp only [Function.comp]
    rw [drop_head (hbt x _ gx), hs x hx]
  rw [e]
  refine grp_step (fun p r hpr => ?_) _ (fun q => ?_)
  · unfold rel at hpr
    have h1 : (qs.drop j)[0]?.map (fun p => (p.key.drop e1, p.val)) = some p := by rw [← List.getElem?_map, hpr]; rfl
    rw [List.getElem?_drop, Nat.add_zero] at h1
    rcases hq : qs[j]? with _ | z
    · rw [hq] at h1; cases h1
    · rw [hq] at h1
      simp only [Option.map_some, Option.some.injEq] at h1
      subst h1
      exact ⟨bt j, _, drop_head (hbt j z hq), fun q => hn j (Nat.le_refl _) (List.getElem?_eq_some_iff.1 hq).1 q.symm⟩
  · have := congrArg List.length q
    rw [rel_len, List.length_take, List.length_nil] at this
    omega
end
end Go.Proofs.YtajpipaooaemdaaGreatDoor
