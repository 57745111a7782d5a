/-
  The kids of a raw tree's nodes, as the document finds them: by each byte the last one. No program is run.
  The document's Grow: the tree that raws tell.
-/
import Derived.Test.YtcfokkojoppmkaaGreatDoorRaw
import Derived.Test.YtcfokkojoppmkaaGreatDoorDtBuild
import Derived.Test.YtcfokkojoppmkaaGreatDoorRaws
namespace Go.Proofs.YtcfokkojoppmkaaGreatDoor

def RiseI (es : List (UInt8 × Nat)) : Prop := es.Pairwise fun a b => a.1.toNat < b.1.toNat
theorem posI_cons (a : UInt8 × Nat) (es : List (UInt8 × Nat)) (b : Nat) : posI (a :: es) b = posI es b + if a.1.toNat < b then 1 else 0 := by
  unfold posI
  rw [List.countP_cons]
  simp
theorem posI_zero {es : List (UInt8 × Nat)} {b : Nat} (h : ∀ e ∈ es, b ≤ e.1.toNat) : posI es b = 0 := by
  unfold posI
  rw [List.countP_eq_zero]
  intro e he
  have := h e he
  simp
  omega
theorem splitI : ∀ {es : List (UInt8 × Nat)} (b : Nat), RiseI es → (∀ e ∈ es.take (posI es b), e.1.toNat < b) ∧ (∀ e ∈ es.drop (posI es b), b ≤ e.1.toNat)
  | [], _, _ => ⟨fun e he => by simp at he, fun e he => by simp at he⟩
  | a :: es, b, h => by
    obtain ⟨h1, h2⟩ := List.pairwise_cons.1 h
    obtain ⟨i1, i2⟩ := splitI b h2
    rw [posI_cons]
    by_cases hb : a.1.toNat < b
    · rw [if_pos hb, List.take_succ_cons, List.drop_succ_cons]
      exact ⟨fun e he => by rcases List.mem_cons.1 he with rfl | q; exact hb; exact i1 e q, i2⟩
    · have h0 : posI es b = 0 := posI_zero fun e he => by have := h1 e he; omega
      rw [if_neg hb, h0]
      exact ⟨fun e he => by simp at he, fun e he => by
        simp at he
        rcases he with rfl | q
        · omega
        · have := h1 e q; omega⟩
theorem hasI_of {es : List (UInt8 × Nat)} (h : RiseI es) {e : UInt8 × Nat} (he : e ∈ es) : hasI es e.1.toNat = true ∧ es[posI es e.1.toNat]? = some e := by
  obtain ⟨i1, i2⟩ := splitI e.1.toNat h
  have hd : e ∈ es.drop (posI es e.1.toNat) := by
    have : e ∈ es.take (posI es e.1.toNat) ++ es.drop (posI es e.1.toNat) := by rw [List.take_append_drop]; exact he
    rcases List.mem_append.1 this with q | q
    · have := i1 e q; omega
    · exact q
  have hp : RiseI (es.drop (posI es e.1.toNat)) := h.sublist (List.drop_sublist _ _)
  have h0 : es[posI es e.1.toNat]? = some e := by
    rcases hx : es.drop (posI es e.1.toNat) with _ | ⟨x, r⟩
    · rw [hx] at hd; cases hd
    · rw [hx] at hd hp
      have hx0 : es[posI es e.1.toNat]? = some x := by
        have : (es.drop (posI es e.1.toNat))[0]? = some x := by rw [hx]; rfl
        rwa [List.getElem?_drop, Nat.add_zero] at this
      rcases List.mem_cons.1 hd with q | q
      · rw [hx0, q]
      · have h3 := (List.pairwise_cons.1 hp).1 e q
        have h4 := i2 x (by rw [hx]; simp)
        omega
  exact ⟨by unfold hasI; rw [h0]; simp, h0⟩
theorem memI_iff {es : List (UInt8 × Nat)} (h : RiseI es) (b : UInt8) (j : Nat) (e : UInt8 × Nat) : e ∈ setI es b j ↔ e = (b, j) ∨ (e ∈ es ∧ e.1 ≠ b) := by
  unfold setI
  by_cases hh : hasI es b.toNat = true
  · rw [if_pos hh]
    obtain ⟨x, hx, hxb⟩ : ∃ x, es[posI es b.toNat]? = some x ∧ x.1.toNat = b.toNat := by
      unfold hasI at hh
      split at hh
      · rename_i x hx; exact ⟨x, hx, of_decide_eq_true hh⟩
      · cases hh
    obtain ⟨hl, hxe⟩ := List.getElem?_eq_some_iff.1 hx
    constructor
    · intro q
      obtain ⟨i, hi⟩ := List.mem_iff_getElem?.1 q
      rw [List.getElem?_set] at hi
      split at hi
      · injection hi with hi; exact .inl hi.symm
      · rename_i hne
        refine .inr ⟨List.mem_of_getElem? hi, fun eb => ?_⟩
        have := (hasI_of h (List.mem_of_getElem? hi)).2
        obtain ⟨l1, g1⟩ := List.getElem?_eq_some_iff.1 hi
        rcases Nat.lt_trichotomy i (posI es b.toNat) with q | q | q
        · have := List.pairwise_iff_getElem.1 h i _ l1 hl q
          rw [g1, hxe, eb] at this
          omega
        · exact hne q.symm
        · have := List.pairwise_iff_getElem.1 h _ i hl l1 q
          rw [g1, hxe, eb] at this
          omega
    · rintro (q | ⟨q1, q2⟩)
      · rw [q]
        exact List.mem_iff_getElem?.2 ⟨posI es b.toNat, by rw [List.getElem?_set, if_pos rfl, if_pos hl]⟩
      · obtain ⟨i, hi⟩ := List.mem_iff_getElem?.1 q1
        refine List.mem_iff_getElem?.2 ⟨i, ?_⟩
        rw [List.getElem?_set, if_neg (fun e2 => ?_)]
        · exact hi
        · rw [← e2, hx] at hi
          injection hi with hi
          exact q2 (UInt8.toNat_inj.1 (by rw [← hi, hxb]))
  · rw [if_neg hh]
    have hs : ∀ e, e ∈ es.take (posI es b.toNat) ++ (b, j) :: es.drop (posI es b.toNat) ↔ e = (b, j) ∨ e ∈ es := fun e => by
      conv => rhs; rw [← List.take_append_drop (posI es b.toNat) es]
      simp only [List.mem_append, List.mem_cons]
      constructor
      · rintro (q | q | q)
        · exact .inr (.inl q)
        · exact .inl q
        · exact .inr (.inr q)
      · rintro (q | q | q)
        · exact .inr (.inl q)
        · exact .inl q
        · exact .inr (.inr q)
    rw [hs]
    constructor
    · rintro (q | q)
      · exact .inl q
      · refine .inr ⟨q, fun eb => hh ?_⟩
        rw [← eb]
        exact (hasI_of h q).1
    · rintro (q | ⟨q, _⟩)
      · exact .inl q
      · exact .inr q
theorem riseI_set {es : List (UInt8 × Nat)} (h : RiseI es) (b : UInt8) (j : Nat) : RiseI (setI es b j) := by
  unfold setI
  by_cases hh : hasI es b.toNat = true
  · rw [if_pos hh]
    obtain ⟨x, hx, hxb⟩ : ∃ x, es[posI es b.toNat]? = some x ∧ x.1.toNat = b.toNat := by
      unfold hasI at hh
      split at hh
      · rename_i x hx; exact ⟨x, hx, of_decide_eq_true hh⟩
      · cases hh
    obtain ⟨hl, hxe⟩ := List.getElem?_eq_some_iff.1 hx
    have hm : (es.set (posI es b.toNat) (b, j)).map (fun e => e.1.toNat) = es.map (fun e => e.1.toNat) := by
      rw [List.map_set]
      have : (es.map (fun e => e.1.toNat))[posI es b.toNat]'(by rw [List.length_map]; exact hl) = b.toNat := by rw [List.getElem_map, hxe, hxb]
      have h9 := List.set_getElem_self (show posI es b.toNat < (es.map (fun e => e.1.toNat)).length by rw [List.length_map]; exact hl)
      rw [this] at h9
      exact h9
    have h1 : (es.map (fun e => e.1.toNat)).Pairwise (· < ·) := List.pairwise_map.2 h
    rw [← hm] at h1
    exact List.pairwise_map.1 h1
  · rw [if_neg hh]
    obtain ⟨i1, i2⟩ := splitI b.toNat h
    refine List.pairwise_append.2 ⟨h.sublist (List.take_sublist _ _), List.pairwise_cons.2 ⟨fun e he => ?_, h.sublist (List.drop_sublist _ _)⟩, fun x hx y hy => ?_⟩
    · have h3 := i2 e he
      have : e.1.toNat ≠ b.toNat := fun q => hh (by rw [← q]; exact (hasI_of h (List.mem_of_mem_drop he)).1)
      show b.toNat < e.1.toNat
      omega
    · have h3 := i1 x hx
      rcases List.mem_cons.1 hy with rfl | q
      · exact h3
      · have := i2 y q; omega
theorem stR_rise (rs : List Rw) : ∀ i k, RiseI ((stR rs i).getD k [])
  | 0, k => by simp [stR, RiseI]
  | i + 1, k => by
    unfold stR
    split
    · rw [getD_snoc]; exact stR_rise rs i k
    · rw [getD_set, getD_snoc]
      split
      · exact riseI_set (stR_rise rs i _) _ _
      · exact stR_rise rs i k
/-- By a byte the last one of those below m. -/
def lastK (rs : List Rw) (k b : Nat) : Nat → Nat
  | 0 => 0
  | m + 1 => if k < m ∧ parR rs m = k ∧ (rs.getD m dR).b.toNat = b then m else lastK rs k b m
theorem lastK_lt (rs : List Rw) (k b : Nat) : ∀ m, lastK rs k b m = 0 ∨ (k < lastK rs k b m ∧ lastK rs k b m < m)
  | 0 => .inl rfl
  | m + 1 => by
    unfold lastK
    split
    · rename_i h; exact .inr ⟨h.1, Nat.lt_succ_self m⟩
    · rcases lastK_lt rs k b m with h | h
      · exact .inl h
      · exact .inr ⟨h.1, by omega⟩
theorem lastK_start (rs : List Rw) (k b : Nat) : ∀ m, m ≤ k + 1 → lastK rs k b m = 0
  | 0, _ => rfl
  | m + 1, h => by
    unfold lastK
    rw [if_neg (by omega)]
    exact lastK_start rs k b m (by omega)
theorem stR_last (rs : List Rw) {k : Nat} (hl : (rs.getD k dR).leaf = false) : ∀ i (b : UInt8) (j : Nat), (b, j) ∈ (stR rs i).getD k [] ↔ lastK rs k b.toNat i = j ∧ 0 < j
  | 0, b, j => by
    simp [stR, lastK]
    omega
  | i + 1, b, j => by
    have ih := stR_last rs hl i b j
    unfold stR lastK
    by_cases hc : i = 0 ∨ (rs.getD (parR rs i) dR).leaf = true
    · rw [if_pos hc, getD_snoc, ih]
      rw [if_neg (fun q => ?_)]
      obtain ⟨q1, q2, _⟩ := q
      rcases hc with h | h
      · omega
      · rw [q2, hl] at h; cases h
    · have hlen : (stR rs i ++ [[]]).length = i + 1 := by rw [List.length_append, stR_len]; rfl
      rw [if_neg hc, getD_set, getD_snoc, hlen]
      have hi0 : i ≠ 0 := fun q => hc (.inl q)
      have hpl : parR rs i < i := Nat.mod_lt _ (by omega)
      by_cases hp : parR rs i = k
      · rw [if_pos (show parR rs i = k ∧ k < i + 1 from ⟨hp, by omega⟩), memI_iff (stR_rise rs i _), hp, ih]
        by_cases hb : (rs.getD i dR).b.toNat = b.toNat
        · rw [if_pos (show k < i ∧ k = k ∧ (rs.getD i dR).b.toNat = b.toNat from ⟨by omega, rfl, hb⟩)]
          have hbb : (rs.getD i dR).b = b := UInt8.toNat_inj.1 hb
          rw [hbb]
          constructor
          · rintro (q | ⟨_, q⟩)
            · injection q with _ q; exact ⟨q.symm, by omega⟩
            · exact absurd rfl q
          · rintro ⟨q, _⟩
            exact .inl (by rw [q])
        · rw [if_neg (fun q => hb q.2.2)]
          constructor
          · rintro (q | ⟨q, _⟩)
            · injection q with q _; exact absurd (by rw [q]) hb
            · exact q
          · intro q
            exact .inr ⟨q, fun e => hb (by rw [← e])⟩
      · rw [if_neg (show ¬ (parR rs i = k ∧ k < i + 1) from fun q => hp q.1), ih, if_neg (fun q => hp q.2.1)]
/-- The kids by the bytes below b. -/
def esUp (rs : List Rw) (k n : Nat) : Nat → List (UInt8 × Nat)
  | 0 => []
  | b + 1 => esUp rs k n b ++ if lastK rs k b n = 0 then [] else [(UInt8.ofNat b, lastK rs k b n)]
theorem esUp_mem (rs : List Rw) (k n : Nat) : ∀ b, b ≤ 256 → ∀ c j, (c, j) ∈ esUp rs k n b ↔ c.toNat < b ∧ lastK rs k c.toNat n = j ∧ 0 < j
  | 0, _, c, j => by simp [esUp]
  | b + 1, hb, c, j => by
    unfold esUp
    rw [List.mem_append, esUp_mem rs k n b (by omega)]
    have hob : (UInt8.ofNat b).toNat = b := by rw [UInt8.toNat_ofNat']; omega
    constructor
    · rintro (⟨q1, q2⟩ | q)
      · exact ⟨by omega, q2⟩
      · split at q
        · cases q
        · rename_i h0
          simp only [List.mem_singleton] at q
          injection q with q1 q2
          rw [q1, hob]
          exact ⟨Nat.lt_succ_self b, q2.symm, by omega⟩
    · rintro ⟨q1, q2, q3⟩
      rcases Nat.lt_or_ge c.toNat b with h | h
      · exact .inl ⟨h, q2, q3⟩
      · have hcb : c.toNat = b := by omega
        refine .inr ?_
        rw [hcb] at q2
        rw [if_neg (by omega)]
        simp only [List.mem_singleton]
        rw [q2, show c = UInt8.ofNat b from UInt8.toNat_inj.1 (by rw [hob, hcb])]
theorem esUp_rise (rs : List Rw) (k n : Nat) : ∀ b, b ≤ 256 → RiseI (esUp rs k n b)
  | 0, _ => List.Pairwise.nil
  | b + 1, hb => by
    unfold esUp
    have hob : (UInt8.ofNat b).toNat = b := by rw [UInt8.toNat_ofNat']; omega
    refine List.pairwise_append.2 ⟨esUp_rise rs k n b (by omega), ?_, fun x hx y hy => ?_⟩
    · split
      · exact List.Pairwise.nil
      · exact List.pairwise_singleton _ _
    · obtain ⟨c, j⟩ := x
      have h1 := ((esUp_mem rs k n b (by omega) c j).1 hx).1
      split at hy
      · cases hy
      · simp only [List.mem_singleton] at hy
        rw [hy]
        show c.toNat < (UInt8.ofNat b).toNat
        omega
theorem riseI_ext : ∀ {a b : List (UInt8 × Nat)}, RiseI a → RiseI b → (∀ x, x ∈ a ↔ x ∈ b) → a = b
  | [], [], _, _, _ => rfl
  | [], y :: b, _, _, h => by have := (h y).2 (by simp); cases this
  | x :: a, [], _, _, h => by have := (h x).1 (by simp); cases this
  | x :: a, y :: b, ha, hb, h => by
    obtain ⟨a1, a2⟩ := List.pairwise_cons.1 ha
    obtain ⟨b1, b2⟩ := List.pairwise_cons.1 hb
    have hxy : x = y := by
      rcases List.mem_cons.1 ((h x).1 (by simp)) with e | q
      · exact e
      · rcases List.mem_cons.1 ((h y).2 (by simp)) with e | q2
        · exact e.symm
        · have := a1 y q2; have := b1 x q; omega
    subst hxy
    rw [riseI_ext a2 b2 fun z => ⟨fun hz => ?_, fun hz => ?_⟩]
    · rcases List.mem_cons.1 ((h z).1 (by simp [hz])) with e | q
      · subst e; have := a1 _ hz; omega
      · exact q
    · rcases List.mem_cons.1 ((h z).2 (by simp [hz])) with e | q
      · subst e; have := b1 _ hz; omega
      · exact q
theorem es_all (rs : List Rw) {k : Nat} (hl : (rs.getD k dR).leaf = false) (n : Nat) : esUp rs k n 256 = (stR rs n).getD k [] :=
  riseI_ext (esUp_rise rs k n 256 (Nat.le_refl _)) (stR_rise rs n k) fun ⟨c, j⟩ => by
    rw [esUp_mem rs k n 256 (Nat.le_refl _), stR_last rs hl]
    have := c.toNat_lt
    constructor
    · exact fun q => q.2
    · exact fun q => ⟨by omega, q⟩
theorem es_leaf (rs : List Rw) {k : Nat} (hl : (rs.getD k dR).leaf = true) (n : Nat) : (stR rs n).getD k [] = [] := by
  rcases h : (stR rs n).getD k [] with _ | ⟨e, es⟩
  · rfl
  · have := (stR_mem rs n k e (by rw [h]; simp)).2.2.2
    rw [hl] at this
    cases this
theorem mkG_app (rs : List Rw) (c : Nat → Fo) : ∀ es fs, mkG rs c (es ++ fs) = (mkG rs c es).app (mkG rs c fs)
  | [], _ => rfl
  | (b, j) :: es, fs => by
    show Fo.cons b _ _ (mkG rs c (es ++ fs)) = Fo.cons b _ _ ((mkG rs c es).app (mkG rs c fs))
    rw [mkG_app rs c es fs]
theorem mkG_len (rs : List Rw) (c : Nat → Fo) : ∀ es, (mkG rs c es).len = es.length
  | [] => rfl
  | (_, _) :: es => by show (mkG rs c es).len + 1 = es.length + 1; rw [mkG_len rs c es]
theorem esUp_len (rs : List Rw) (k n : Nat) : ∀ b, (esUp rs k n b).length ≤ b
  | 0 => Nat.le_refl _
  | b + 1 => by
    unfold esUp
    rw [List.length_append]
    have := esUp_len rs k n b
    split
    · simp; omega
    · simp; omega
end Go.Proofs.YtcfokkojoppmkaaGreatDoor

namespace Go.Proofs.YtcfokkojoppmkaaGreatDoor
open Go.RowKit

theorem DB.as {B base g : Nat} {W : World} {a0 aP aH aV vb vk : Value} {bs : List UInt8} {css : List (List Value)} {d : Fo} (h : DB B base W g a0 aP aH aV vb vk bs css d) (e : d.bytes = bs) : DB B base W g a0 aP aH aV vb vk d.bytes css d := by
  rw [e]; exact h
def GrOk (f : Nat) : Prop := ∀ (k n c B : Nat) (A : Option Addr) (rs : List Rw) (w : World), Rzs w B A n rs → B ≤ w.heap.size → k < n → n ≤ k + f → n ≤ 24 → (∀ r ∈ rs, r.part.length ≤ 300) →
  Calls Tryz.prog 30 #[.slice A n c, .int .i64 (k : Int)] w (RBPost B w (nnR (rs.getD k dR), growF rs n f k))

set_option maxRecDepth 100000 in
set_option maxHeartbeats 4000000 in
theorem rgrow_step {f : Nat} (ih : GrOk f) : GrOk (f + 1) := by
  intro k n c B A rs w ha hB hk hf hn hpl
  obtain ⟨ad, r, rfl, hlt, e1, c0, c1, c2, c3, c4, c5, bp, rc, v0, v1⟩ := ha.at6 hk
  have hgd : rs.getD k dR = r := by rw [List.getD_eq_getElem?_getD, e1]; rfl
  have hpn : r.n = r.part.length := bp.1.symm
  obtain ⟨W0, hW0⟩ : ∃ V, w.alloc (.cells #[.int .i64 0, .slice none 0 0, .bool false, .int .u64 0, .slice none 0 0, .slice none 0 0] 45) = V := ⟨_, rfl⟩
  have bW0 : Below w.heap.size w W0 := by rw [← hW0]; exact (Below.refl _ _).alloc (Nat.le_refl _) _
  have sW0 : W0.heap.size = w.heap.size + 1 := by rw [← hW0]; simp
  have zW0 : Lst W0 w.heap.size [.int .i64 0, .slice none 0 0, .bool false, .int .u64 0, .slice none 0 0, .slice none 0 0] := by rw [← hW0]; exact Blk.new w _ _
  obtain ⟨g1, hg1⟩ : ∃ g, W0.heap.size = g := ⟨_, rfl⟩
  obtain ⟨U1, hU1⟩ : ∃ V, (W0.alloc (.cells #[.int .i64 0, .slice none 0 0, .bool false, .int .u64 0, .slice none 0 0, .slice none 0 0] 45)).drew = V := ⟨_, rfl⟩
  have bU1 : Below W0.heap.size W0 U1 := by rw [← hU1]; exact ((Below.refl _ _).alloc (Nat.le_refl _) _).drew
  have zU1 : Lst U1 g1 [.int .i64 0, .slice none 0 0, .bool false, .int .u64 0, .slice none 0 0, .slice none 0 0] := by rw [← hU1, ← hg1]; exact Blk.new W0 _ _
  obtain ⟨U2, hU2⟩ : ∃ V, U1.setCells g1 0 [.int .i64 1, .slice r.A r.n r.c, .bool true, .int .u64 r.val, .slice none 0 0, .slice none 0 0] = V := ⟨_, rfl⟩
  have bU2 : Below W0.heap.size W0 U2 := by rw [← hU2, ← hg1]; exact below_over bU1 _ bU1.size
  have zU2 : Lst U2 g1 [.int .i64 1, .slice r.A r.n r.c, .bool true, .int .u64 r.val, .slice none 0 0, .slice none 0 0] := by rw [← hU2]; exact over_six zU1 rfl rfl
  have HTH1 := Lib.hid (Lst.there zU1 (o := 0) (n := 6) (Nat.le_refl _))
  have HO1 := Lib.hid (show ([.int .i64 1, .slice r.A r.n r.c, .bool true, .int .u64 r.val, .slice none 0 0, .slice none 0 0] : List Value).toArray.all (·.oneCell') = true from all_oneCell_toArray (fun v hv => by
    simp only [List.mem_cons, List.not_mem_nil, or_false] at hv
    rcases hv with rfl | rfl | rfl | rfl | rfl | rfl <;> rfl))
  have HA := Lib.hid (fun V (h : Below w.heap.size w V) => ha.below (h.mono hB))
  have HCC := Lib.hid (fun V (h : Below w.heap.size w V) => show (V.cell? ⟨(ad.add (k * 6)).block, (ad.add (k * 6)).off + 1, none⟩ = some (.slice r.A r.n r.c) ∧ V.cell? ⟨(ad.add (k * 6)).block, (ad.add (k * 6)).off + 3, none⟩ = some (.int .u64 r.val)) from ⟨(h.cell (lt_cell c1)).trans c1, (h.cell (lt_cell c3)).trans c3⟩)
  have HC0 := Lib.hid (fun V (h : Below w.heap.size w V) => show V.cell? (ad.add (k * 6)) = some (.bool r.leaf) ∧ V.cell? ⟨(ad.add (k * 6)).block, (ad.add (k * 6)).off + 2, none⟩ = some (.bool r.has) from ⟨(h.cell (lt_cell c0)).trans c0, (h.cell (lt_cell c2)).trans c2⟩)
  have HBP := Lib.hid (fun V (h : Below w.heap.size w V) => (bp.below (h.mono hB)).more (Nat.le_trans hB h.size))
  have HPB := Lib.hid (show ∀ i, Pb r.A r.part i → i < B from fun i hi => by have q1 := bp; rw [hpn] at q1; exact q1.ltPb hi)
  have HRC := Lib.hid rc
  have BW := Lib.hid bW0
  have ZW := Lib.hid zW0
  have SW := Lib.hid sW0
  have BU1 := Lib.hid bU1
  have BU2 := Lib.hid bU2
  have ZU2 := Lib.hid zU2
  have HU2 := Lib.hid hU2
  have HU1 := Lib.hid hU1
  have HG1 := Lib.hid hg1
  have HPL := Lib.hid hpl
  have HGD := Lib.hid hgd
  have hgw : w.heap.size < g1 := by omega
  have hBg : B ≤ g1 := by omega
  have HLNR := Lib.hid ha.length
  have hkn : (k : Int) < (n : Int) := by omega
  clear ha c0 c1 c2 c3 c4 c5 bp rc bW0 zW0 sW0 bU1 zU1 bU2 zU2 hU1 hU2 hpn hpl e1 hlt v0 v1
  cases hlf : r.leaf with
  | true =>
    have HX := Lib.hid (show (nnR (rs.getD k dR), growF rs n (f + 1) k) = (⟨true, 1, r.part, r.val, true⟩, .nil) from by
      have h2 := es_leaf rs (k := k) (by rw [hgd]; exact hlf) n
      unfold growF
      rw [h2, hgd]
      unfold nnR
      rw [hlf]
      rfl)
    have hdn : DnoS U2 (fun i => i < B ∨ (w.heap.size + 1 ≤ i ∧ i < U2.heap.size)) ⟨true, 1, r.part, r.val, true⟩ .nil [.int .i64 1, .slice r.A r.n r.c, .bool true, .int .u64 r.val, .slice none 0 0, .slice none 0 0] :=
      ⟨⟨r.A, r.n, r.c, none, 0, 0, none, 0, 0⟩, [], rfl, ⟨⟨HBP.out U2 (BW.out.trans (BU2.out.mono BW.out.size)), HRC.out, byt_nil _ _, Nat.le_refl _, Rws.none_, Nat.le_refl _⟩, fun i hi => .inl (HPB.out i hi), fun i hi => absurd rfl hi.1, fun ad' e => by cases e⟩, rfl⟩
    have hz : Lst U2 w.heap.size [.int .i64 0, .slice none 0 0, .bool false, .int .u64 0, .slice none 0 0, .slice none 0 0] := Blk.below ZW.out BU2.out (by have := SW.out; omega)
    obtain ⟨h1', h2', h3'⟩ := hand_over hdn hz rfl hB (by omega) (BW.out.trans (BU2.out.mono BW.out.size))
    have HN6 := Lib.hid (node_six hdn).2
    have HTH := Lib.hid (Lst.there hz (o := 0) (n := 6) (Nat.le_refl _))
    have H1 := Lib.hid h1'
    have H2 := Lib.hid h2'
    have H3 := Lib.hid h3'
    rw [hlf] at HC0
    clear hdn hz h1' h2' h3' hlf hgd
    go_enter Tryz.func30, Tryz.ntmps30
    go_wp2_with fail
    refine wp_region_held_drew (S := (fun V => V.cell? ⟨(ad.add (k * 6)).block, (ad.add (k * 6)).off + 1, none⟩ = some (.slice r.A r.n r.c) ∧ V.cell? ⟨(ad.add (k * 6)).block, (ad.add (k * 6)).off + 3, none⟩ = some (.int .u64 r.val))) (by kernel_rfl) (HCC.out _ BW.out.drew) (fun hHeld => ?_)
    refine wpAnyH_take (i := 0) (oi := { dst := some 9, op := Op.move (Operand.tmp 0), type := 66, pos := "ref.go:242", after := #[], guard := none }) (v := ?v1) rfl (by kernel_rfl) (by kernel_rfl) (by kernel_rfl) (fun _ _ _ h => h) (Or.inl ⟨by rfl, ?hy1⟩) hHeld ?rest1
    case hy1 => (intro w' hSw; (try dsimp only at hSw); go_simp; (try with_reducible rfl))
    try simp only [Act.put, List.setIfInBounds_toArray, List.set_cons_zero, List.set_cons_succ]
    refine wpAnyH_take (i := 1) (oi := { dst := some 10, op := Op.move (Operand.tmp 1), type := 3, pos := "ref.go:242", after := #[], guard := none }) (v := ?v2) rfl (by kernel_rfl) (by kernel_rfl) (by kernel_rfl) (fun _ _ _ h => h) (Or.inl ⟨by rfl, ?hy2⟩) hHeld ?rest2
    case hy2 => (intro w' hSw; (try dsimp only at hSw); go_simp; (try with_reducible rfl))
    try simp only [Act.put, List.setIfInBounds_toArray, List.set_cons_zero, List.set_cons_succ]
    refine wpAnyH_take (i := 2) (oi := { dst := some 11, op := Op.indexAddr 66 (Operand.tmp 9) (Operand.tmp 10), type := 0, pos := "ref.go:242", after := #[{ on := 0, ground := Ground.data }, { on := 1, ground := Ground.data }], guard := none }) (v := ?v3) rfl (by kernel_rfl) (by kernel_rfl) (by kernel_rfl) (fun _ _ _ h => h) (Or.inl ⟨by rfl, ?hy3⟩) hHeld ?rest3
    case hy3 => (intro w' hSw; (try dsimp only at hSw); go_simp; (try with_reducible rfl))
    try simp only [Act.put, List.setIfInBounds_toArray, List.set_cons_zero, List.set_cons_succ]
    refine wpAnyH_take (i := 3) (oi := { dst := some 12, op := Op.fieldAddr 68 (Operand.tmp 11) 1, type := 0, pos := "ref.go:242", after := #[{ on := 2, ground := Ground.data }], guard := none }) (v := ?v4) rfl (by kernel_rfl) (by kernel_rfl) (by kernel_rfl) (fun _ _ _ h => h) (Or.inl ⟨by rfl, ?hy4⟩) hHeld ?rest4
    case hy4 => (intro w' hSw; (try dsimp only at hSw); go_simp; (try with_reducible rfl))
    try simp only [Act.put, List.setIfInBounds_toArray, List.set_cons_zero, List.set_cons_succ]
    refine wpAnyH_take (i := 4) (oi := { dst := some 13, op := Op.load 42 (Operand.tmp 12), type := 42, pos := "ref.go:242", after := #[{ on := 3, ground := Ground.data }], guard := none }) (v := ?v5) rfl (by kernel_rfl) (by kernel_rfl) (by kernel_rfl) (fun _ _ _ h => h) (Or.inl ⟨by rfl, ?hy5⟩) hHeld ?rest5
    case hy5 => (intro w' hSw; (try dsimp only at hSw); go_simp; (try with_reducible rfl))
    try simp only [Act.put, List.setIfInBounds_toArray, List.set_cons_zero, List.set_cons_succ]
    refine wpAnyH_take (i := 5) (oi := { dst := some 14, op := Op.move (Operand.tmp 0), type := 66, pos := "ref.go:242", after := #[], guard := none }) (v := ?v6) rfl (by kernel_rfl) (by kernel_rfl) (by kernel_rfl) (fun _ _ _ h => h) (Or.inl ⟨by rfl, ?hy6⟩) hHeld ?rest6
    case hy6 => (intro w' hSw; (try dsimp only at hSw); go_simp; (try with_reducible rfl))
    try simp only [Act.put, List.setIfInBounds_toArray, List.set_cons_zero, List.set_cons_succ]
    refine wpAnyH_take (i := 6) (oi := { dst := some 15, op := Op.move (Operand.tmp 1), type := 3, pos := "ref.go:242", after := #[], guard := none }) (v := ?v7) rfl (by kernel_rfl) (by kernel_rfl) (by kernel_rfl) (fun _ _ _ h => h) (Or.inl ⟨by rfl, ?hy7⟩) hHeld ?rest7
    case hy7 => (intro w' hSw; (try dsimp only at hSw); go_simp; (try with_reducible rfl))
    try simp only [Act.put, List.setIfInBounds_toArray, List.set_cons_zero, List.set_cons_succ]
    refine wpAnyH_take (i := 7) (oi := { dst := some 16, op := Op.indexAddr 66 (Operand.tmp 14) (Operand.tmp 15), type := 0, pos := "ref.go:242", after := #[{ on := 5, ground := Ground.data }, { on := 6, ground := Ground.data }], guard := none }) (v := ?v8) rfl (by kernel_rfl) (by kernel_rfl) (by kernel_rfl) (fun _ _ _ h => h) (Or.inl ⟨by rfl, ?hy8⟩) hHeld ?rest8
    case hy8 => (intro w' hSw; (try dsimp only at hSw); go_simp; (try with_reducible rfl))
    try simp only [Act.put, List.setIfInBounds_toArray, List.set_cons_zero, List.set_cons_succ]
    refine wpAnyH_take (i := 8) (oi := { dst := some 17, op := Op.fieldAddr 68 (Operand.tmp 16) 3, type := 0, pos := "ref.go:242", after := #[{ on := 7, ground := Ground.data }], guard := none }) (v := ?v9) rfl (by kernel_rfl) (by kernel_rfl) (by kernel_rfl) (fun _ _ _ h => h) (Or.inl ⟨by rfl, ?hy9⟩) hHeld ?rest9
    case hy9 => (intro w' hSw; (try dsimp only at hSw); go_simp; (try with_reducible rfl))
    try simp only [Act.put, List.setIfInBounds_toArray, List.set_cons_zero, List.set_cons_succ]
    refine wpAnyH_take (i := 9) (oi := { dst := some 18, op := Op.load 37 (Operand.tmp 17), type := 37, pos := "ref.go:242", after := #[{ on := 8, ground := Ground.data }], guard := none }) (v := ?v10) rfl (by kernel_rfl) (by kernel_rfl) (by kernel_rfl) (fun _ _ _ h => h) (Or.inl ⟨by rfl, ?hy10⟩) hHeld ?rest10
    case hy10 => (intro w' hSw; (try dsimp only at hSw); go_simp; (try with_reducible rfl))
    try simp only [Act.put, List.setIfInBounds_toArray, List.set_cons_zero, List.set_cons_succ]
    refine wpAnyH_take (i := 10) (oi := { dst := some 19, op := Op.build 45 #[(0, Operand.const (Value.int IntKind.i64 1)), (1, Operand.tmp 13), (2, Operand.const (Value.bool true)), (3, Operand.tmp 18)], type := 45, pos := "ref.go:242", after := #[{ on := 4, ground := Ground.data }, { on := 9, ground := Ground.data }], guard := none }) (v := ?v11) rfl (by kernel_rfl) (by kernel_rfl) (by kernel_rfl) (fun _ _ _ h => h) (Or.inl ⟨by rfl, ?hy11⟩) hHeld ?rest11
    case hy11 => (intro w' hSw; (try dsimp only at hSw); go_simp; (try with_reducible rfl))
    try simp only [Act.put, List.setIfInBounds_toArray, List.set_cons_zero, List.set_cons_succ]
    refine wpAnyH_ready (rs := [11]) (by kernel_rfl) (by simp) (AllReadyH.cons (o := { dst := some 5, op := Op.alloc 45, type := 0, pos := "ref.go:242", after := #[], guard := none }) rfl (fun K hK => ?_) AllReadyH.nil)
    go_simp
    rw [HU1.out]
    refine hK.out _ _ (HCC.out _ (BW.out.trans (BU1.out.mono BW.out.size))) (fun hHeld' => ?_)
    clear hK K hHeld
    have hHeld := hHeld'
    clear hHeld'
    try simp only [Act.put, List.setIfInBounds_toArray, List.set_cons_zero, List.set_cons_succ]
    refine wpAnyH_ready (rs := [12]) (by kernel_rfl) (by simp) (AllReadyH.cons (o := { dst := none, op := Op.store 45 (Operand.tmp 5) (Operand.tmp 19), type := 0, pos := "ref.go:242", after := #[{ on := 11, ground := Ground.data }, { on := 10, ground := Ground.data }, { on := 0, ground := Ground.phase }, { on := 1, ground := Ground.phase }, { on := 2, ground := Ground.phase }, { on := 3, ground := Ground.phase }, { on := 4, ground := Ground.phase }, { on := 5, ground := Ground.phase }, { on := 6, ground := Ground.phase }, { on := 7, ground := Ground.phase }, { on := 8, ground := Ground.phase }, { on := 9, ground := Ground.phase }, { on := 10, ground := Ground.phase }, { on := 11, ground := Ground.phase }], guard := none }) rfl (fun K hK => ?_) AllReadyH.nil)
    rw [if_pos (by rfl)]
    refine wp_store_mid 45 (.tmp 5) (.tmp 19) (by rfl) g1 0 ([.int .i64 1, .slice r.A r.n r.c, .bool true, .int .u64 r.val, .slice none 0 0, .slice none 0 0] : List Value).toArray (by rfl) (by rfl) HTH1.out size_node HO1.out ?_
    rw [show (([.int .i64 1, .slice r.A r.n r.c, .bool true, .int .u64 r.val, .slice none 0 0, .slice none 0 0] : List Value).toArray).toList = [.int .i64 1, .slice r.A r.n r.c, .bool true, .int .u64 r.val, .slice none 0 0, .slice none 0 0] from rfl, HU2.out]
    simp only [Act.put]
    refine hK.out _ _ (HCC.out _ (BW.out.trans (BU2.out.mono BW.out.size))) (fun hHeld' => ?_)
    clear hK K hHeld
    have hHeld := hHeld'
    clear hHeld'
    try simp only [Act.put, List.setIfInBounds_toArray, List.set_cons_zero, List.set_cons_succ]
    refine wpAnyH_done (by kernel_rfl) ?_ _
    have cl := (HC0.out U2 (BW.out.trans (BU2.out.mono BW.out.size))).1
    have k0 := Blk.cell ZU2.out 0
    have k1 := Blk.cell ZU2.out 1
    have k2 := Blk.cell ZU2.out 2
    have k3 := Blk.cell ZU2.out 3
    have k4 := Blk.cell ZU2.out 4
    have k5 := Blk.cell ZU2.out 5
    go_wp2_with (refine wpList_store_mid rfl 45 (.tmp 4) (.tmp 25) rfl w.heap.size 0 ([.int .i64 1, .slice r.A r.n r.c, .bool true, .int .u64 r.val, .slice none 0 0, .slice none 0 0] : List Value).toArray (by rfl) (by rfl) HTH.out size_node HN6.out ?_)
    (try simp only [Exit.inBlock, Exit.then])
    refine bodyPost_ret (node_ret Tryz.f30 rfl _ H1.out rfl (by rfl)) (by rfl) ?_
    exact ⟨_, rfl, by rw [HX.out]; exact H2.out, H3.out⟩
  | false =>
    rw [hlf] at HC0
    have HES := Lib.hid (es_all rs (k := k) (by rw [hgd]; exact hlf) n)
    cases hhs : r.has with
    | true =>
      rw [hhs] at HC0
      have HX := Lib.hid (show (nnR (rs.getD k dR), growF rs n (f + 1) k) = (⟨false, 1, r.part, r.val, true⟩, mkG rs (growF rs n f) (esUp rs k n 256)) from by
        rw [HES.out]
        unfold growF nnR
        rw [hgd, hlf, hhs]
        rfl)
      have kk : Kept (· = g1) U2 (U2.setCell ⟨g1, 2, none⟩ (.bool true)) := Kept.set_ _ _ _ rfl
      have hb0 : Blk (U2.setCell ⟨g1, 2, none⟩ (.bool true)) g1 #[.int .i64 1, .slice r.A r.n r.c, .bool true, .int .u64 r.val, .slice none 0 0, .slice none 0 0] := by simpa using ZU2.out.set_ 2 (.bool true)
      have D2 := Lib.hid (show DB B W0.heap.size (U2.setCell ⟨g1, 2, none⟩ (.bool true)) g1 (.int .i64 1) (.slice r.A r.n r.c) (.bool true) (.int .u64 r.val) (.slice none 0 0) (.slice none 0 0) [] [] .nil from DB.start hb0 (by omega) (by have := HG1.out; omega))
      have BW2 := Lib.hid (show Below W0.heap.size W0 (U2.setCell ⟨g1, 2, none⟩ (.bool true)) from BU2.out.trans (kk.below BU2.out.size (fun i e => by have := HG1.out; omega)))
      clear hlf hgd hhs kk hb0
      go_enter Tryz.func30, Tryz.ntmps30
      go_wp2_with fail
      refine wp_region_held_drew (S := (fun V => V.cell? ⟨(ad.add (k * 6)).block, (ad.add (k * 6)).off + 1, none⟩ = some (.slice r.A r.n r.c) ∧ V.cell? ⟨(ad.add (k * 6)).block, (ad.add (k * 6)).off + 3, none⟩ = some (.int .u64 r.val))) (by kernel_rfl) (HCC.out _ BW.out.drew) (fun hHeld => ?_)
      refine wpAnyH_take (i := 0) (oi := { dst := some 9, op := Op.move (Operand.tmp 0), type := 66, pos := "ref.go:242", after := #[], guard := none }) (v := ?v12) rfl (by kernel_rfl) (by kernel_rfl) (by kernel_rfl) (fun _ _ _ h => h) (Or.inl ⟨by rfl, ?hy12⟩) hHeld ?rest12
      case hy12 => (intro w' hSw; (try dsimp only at hSw); go_simp; (try with_reducible rfl))
      try simp only [Act.put, List.setIfInBounds_toArray, List.set_cons_zero, List.set_cons_succ]
      refine wpAnyH_take (i := 1) (oi := { dst := some 10, op := Op.move (Operand.tmp 1), type := 3, pos := "ref.go:242", after := #[], guard := none }) (v := ?v13) rfl (by kernel_rfl) (by kernel_rfl) (by kernel_rfl) (fun _ _ _ h => h) (Or.inl ⟨by rfl, ?hy13⟩) hHeld ?rest13
      case hy13 => (intro w' hSw; (try dsimp only at hSw); go_simp; (try with_reducible rfl))
      try simp only [Act.put, List.setIfInBounds_toArray, List.set_cons_zero, List.set_cons_succ]
      refine wpAnyH_take (i := 2) (oi := { dst := some 11, op := Op.indexAddr 66 (Operand.tmp 9) (Operand.tmp 10), type := 0, pos := "ref.go:242", after := #[{ on := 0, ground := Ground.data }, { on := 1, ground := Ground.data }], guard := none }) (v := ?v14) rfl (by kernel_rfl) (by kernel_rfl) (by kernel_rfl) (fun _ _ _ h => h) (Or.inl ⟨by rfl, ?hy14⟩) hHeld ?rest14
      case hy14 => (intro w' hSw; (try dsimp only at hSw); go_simp; (try with_reducible rfl))
      try simp only [Act.put, List.setIfInBounds_toArray, List.set_cons_zero, List.set_cons_succ]
      refine wpAnyH_take (i := 3) (oi := { dst := some 12, op := Op.fieldAddr 68 (Operand.tmp 11) 1, type := 0, pos := "ref.go:242", after := #[{ on := 2, ground := Ground.data }], guard := none }) (v := ?v15) rfl (by kernel_rfl) (by kernel_rfl) (by kernel_rfl) (fun _ _ _ h => h) (Or.inl ⟨by rfl, ?hy15⟩) hHeld ?rest15
      case hy15 => (intro w' hSw; (try dsimp only at hSw); go_simp; (try with_reducible rfl))
      try simp only [Act.put, List.setIfInBounds_toArray, List.set_cons_zero, List.set_cons_succ]
      refine wpAnyH_take (i := 4) (oi := { dst := some 13, op := Op.load 42 (Operand.tmp 12), type := 42, pos := "ref.go:242", after := #[{ on := 3, ground := Ground.data }], guard := none }) (v := ?v16) rfl (by kernel_rfl) (by kernel_rfl) (by kernel_rfl) (fun _ _ _ h => h) (Or.inl ⟨by rfl, ?hy16⟩) hHeld ?rest16
      case hy16 => (intro w' hSw; (try dsimp only at hSw); go_simp; (try with_reducible rfl))
      try simp only [Act.put, List.setIfInBounds_toArray, List.set_cons_zero, List.set_cons_succ]
      refine wpAnyH_take (i := 5) (oi := { dst := some 14, op := Op.move (Operand.tmp 0), type := 66, pos := "ref.go:242", after := #[], guard := none }) (v := ?v17) rfl (by kernel_rfl) (by kernel_rfl) (by kernel_rfl) (fun _ _ _ h => h) (Or.inl ⟨by rfl, ?hy17⟩) hHeld ?rest17
      case hy17 => (intro w' hSw; (try dsimp only at hSw); go_simp; (try with_reducible rfl))
      try simp only [Act.put, List.setIfInBounds_toArray, List.set_cons_zero, List.set_cons_succ]
      refine wpAnyH_take (i := 6) (oi := { dst := some 15, op := Op.move (Operand.tmp 1), type := 3, pos := "ref.go:242", after := #[], guard := none }) (v := ?v18) rfl (by kernel_rfl) (by kernel_rfl) (by kernel_rfl) (fun _ _ _ h => h) (Or.inl ⟨by rfl, ?hy18⟩) hHeld ?rest18
      case hy18 => (intro w' hSw; (try dsimp only at hSw); go_simp; (try with_reducible rfl))
      try simp only [Act.put, List.setIfInBounds_toArray, List.set_cons_zero, List.set_cons_succ]
      refine wpAnyH_take (i := 7) (oi := { dst := some 16, op := Op.indexAddr 66 (Operand.tmp 14) (Operand.tmp 15), type := 0, pos := "ref.go:242", after := #[{ on := 5, ground := Ground.data }, { on := 6, ground := Ground.data }], guard := none }) (v := ?v19) rfl (by kernel_rfl) (by kernel_rfl) (by kernel_rfl) (fun _ _ _ h => h) (Or.inl ⟨by rfl, ?hy19⟩) hHeld ?rest19
      case hy19 => (intro w' hSw; (try dsimp only at hSw); go_simp; (try with_reducible rfl))
      try simp only [Act.put, List.setIfInBounds_toArray, List.set_cons_zero, List.set_cons_succ]
      refine wpAnyH_take (i := 8) (oi := { dst := some 17, op := Op.fieldAddr 68 (Operand.tmp 16) 3, type := 0, pos := "ref.go:242", after := #[{ on := 7, ground := Ground.data }], guard := none }) (v := ?v20) rfl (by kernel_rfl) (by kernel_rfl) (by kernel_rfl) (fun _ _ _ h => h) (Or.inl ⟨by rfl, ?hy20⟩) hHeld ?rest20
      case hy20 => (intro w' hSw; (try dsimp only at hSw); go_simp; (try with_reducible rfl))
      try simp only [Act.put, List.setIfInBounds_toArray, List.set_cons_zero, List.set_cons_succ]
      refine wpAnyH_take (i := 9) (oi := { dst := some 18, op := Op.load 37 (Operand.tmp 17), type := 37, pos := "ref.go:242", after := #[{ on := 8, ground := Ground.data }], guard := none }) (v := ?v21) rfl (by kernel_rfl) (by kernel_rfl) (by kernel_rfl) (fun _ _ _ h => h) (Or.inl ⟨by rfl, ?hy21⟩) hHeld ?rest21
      case hy21 => (intro w' hSw; (try dsimp only at hSw); go_simp; (try with_reducible rfl))
      try simp only [Act.put, List.setIfInBounds_toArray, List.set_cons_zero, List.set_cons_succ]
      refine wpAnyH_take (i := 10) (oi := { dst := some 19, op := Op.build 45 #[(0, Operand.const (Value.int IntKind.i64 1)), (1, Operand.tmp 13), (2, Operand.const (Value.bool true)), (3, Operand.tmp 18)], type := 45, pos := "ref.go:242", after := #[{ on := 4, ground := Ground.data }, { on := 9, ground := Ground.data }], guard := none }) (v := ?v22) rfl (by kernel_rfl) (by kernel_rfl) (by kernel_rfl) (fun _ _ _ h => h) (Or.inl ⟨by rfl, ?hy22⟩) hHeld ?rest22
      case hy22 => (intro w' hSw; (try dsimp only at hSw); go_simp; (try with_reducible rfl))
      try simp only [Act.put, List.setIfInBounds_toArray, List.set_cons_zero, List.set_cons_succ]
      refine wpAnyH_ready (rs := [11]) (by kernel_rfl) (by simp) (AllReadyH.cons (o := { dst := some 5, op := Op.alloc 45, type := 0, pos := "ref.go:242", after := #[], guard := none }) rfl (fun K hK => ?_) AllReadyH.nil)
      go_simp
      rw [HU1.out]
      refine hK.out _ _ (HCC.out _ (BW.out.trans (BU1.out.mono BW.out.size))) (fun hHeld' => ?_)
      clear hK K hHeld
      have hHeld := hHeld'
      clear hHeld'
      try simp only [Act.put, List.setIfInBounds_toArray, List.set_cons_zero, List.set_cons_succ]
      refine wpAnyH_ready (rs := [12]) (by kernel_rfl) (by simp) (AllReadyH.cons (o := { dst := none, op := Op.store 45 (Operand.tmp 5) (Operand.tmp 19), type := 0, pos := "ref.go:242", after := #[{ on := 11, ground := Ground.data }, { on := 10, ground := Ground.data }, { on := 0, ground := Ground.phase }, { on := 1, ground := Ground.phase }, { on := 2, ground := Ground.phase }, { on := 3, ground := Ground.phase }, { on := 4, ground := Ground.phase }, { on := 5, ground := Ground.phase }, { on := 6, ground := Ground.phase }, { on := 7, ground := Ground.phase }, { on := 8, ground := Ground.phase }, { on := 9, ground := Ground.phase }, { on := 10, ground := Ground.phase }, { on := 11, ground := Ground.phase }], guard := none }) rfl (fun K hK => ?_) AllReadyH.nil)
      rw [if_pos (by rfl)]
      refine wp_store_mid 45 (.tmp 5) (.tmp 19) (by rfl) g1 0 ([.int .i64 1, .slice r.A r.n r.c, .bool true, .int .u64 r.val, .slice none 0 0, .slice none 0 0] : List Value).toArray (by rfl) (by rfl) HTH1.out size_node HO1.out ?_
      rw [show (([.int .i64 1, .slice r.A r.n r.c, .bool true, .int .u64 r.val, .slice none 0 0, .slice none 0 0] : List Value).toArray).toList = [.int .i64 1, .slice r.A r.n r.c, .bool true, .int .u64 r.val, .slice none 0 0, .slice none 0 0] from rfl, HU2.out]
      simp only [Act.put]
      refine hK.out _ _ (HCC.out _ (BW.out.trans (BU2.out.mono BW.out.size))) (fun hHeld' => ?_)
      clear hK K hHeld
      have hHeld := hHeld'
      clear hHeld'
      try simp only [Act.put, List.setIfInBounds_toArray, List.set_cons_zero, List.set_cons_succ]
      refine wpAnyH_done (by kernel_rfl) ?_ _
      have cl := (HC0.out U2 (BW.out.trans (BU2.out.mono BW.out.size)))
      have cl1 := cl.1
      have cl2 := cl.2
      clear cl
      have k0 := Blk.cell ZU2.out 0
      have k1 := Blk.cell ZU2.out 1
      have k2 := Blk.cell ZU2.out 2
      have k3 := Blk.cell ZU2.out 3
      have k4 := Blk.cell ZU2.out 4
      have k5 := Blk.cell ZU2.out 5
      have z2 := Blk.fz ZU2.out 2
      go_upto_region 7 with fail
      clear k0 k1 k2 k3 k4 k5 z2 cl1 cl2
      generalize (U2.setCell ⟨g1, 2, none⟩ (.bool true)) = W2 at D2 BW2 ⊢
      go_wp2_with fail
      go_loopw [6] (fun bv wr => ∃ (b : Nat) (d : Fo) (vb vk : Value) (css : List (List Value)), b ≤ 256 ∧ bv = .int .i64 b ∧ Hid (DB B W0.heap.size wr g1 (.int .i64 1) (.slice r.A r.n r.c) (.bool true) (.int .u64 r.val) vb vk d.bytes css d) ∧ Hid (d = mkG rs (growF rs n f) (esUp rs k n b)) ∧ Hid (Below W0.heap.size W0 wr)) (fun bv _ => 256 - (intOf bv).toNat)
      case atStart => exact ⟨0, .nil, _, _, [], Nat.zero_le _, rfl, D2, Lib.hid rfl, BW2⟩
      case round =>
        obtain ⟨b, d, vb, vk, css, hb, rfl, HD, HM, HBr⟩ := hrel
        have hBw := BW.out.trans (HBr.out.mono BW.out.size)
        have HBw := Lib.hid hBw
        by_cases h1 : b < 256
        · have h1' : (b : Int) < 256 := by omega
          clear h1 hb
          go_upto_block 2 with fail
          go_cut [7] (fun lv wc => lv = .int .i64 (lastK rs k b n) ∧ Still wr wc)
          case first =>
            go_wp2_with fail
            go_loopw [7, 8] (fun lv jv wq => ∃ j : Nat, k + 1 ≤ j ∧ j ≤ n ∧ jv = .int .i64 j ∧ lv = .int .i64 (lastK rs k b j) ∧ Still wr wq) (fun _ jv _ => n - (intOf jv).toNat)
            case atStart => exact ⟨k + 1, Nat.le_refl _, by omega, by go_num, by rw [lastK_start rs k b (k + 1) (Nat.le_refl _)]; rfl, Still.refl _⟩
            case round =>
              obtain ⟨j, hj0, hj, rfl, rfl, tq, rfl⟩ := hrel
              by_cases h2 : j < n
              · obtain ⟨_, rj, e0, _, ej, _, _, _, _, f4, f5, _⟩ := (HA.out wr HBw.out).at6 h2
                cases e0
                have hgj : rs.getD j dR = rj := by rw [List.getD_eq_getElem?_getD, ej]; rfl
                have hpj : parR rs j = rj.up.toNat % j := by unfold parR; rw [hgj]
                have hlk : lastK rs k b (j + 1) = if k < j ∧ parR rs j = k ∧ rj.b.toNat = b then j else lastK rs k b j := by rw [← hgj]; rfl
                have HLK := Lib.hid hlk
                have hjn : (j : Int) < (n : Int) := by omega
                have hj00 : ((j : Int) == 0) = false := by rw [beq_eq_false_iff_ne]; omega
                obtain ⟨pj, hpj2⟩ : ∃ q, parR rs j = q := ⟨_, rfl⟩
                have q1 : ((rj.up.toNat : Nat) : Int).tmod (j : Int) = (pj : Int) := by
                  rw [Int.tmod_eq_emod_of_nonneg (by omega), ← hpj2, hpj]
                  omega
                have hpl2 : pj < j := by rw [← hpj2]; exact Nat.mod_lt _ (by omega)
                rw [hpj2] at HLK
                have hu1 : (0 : Int) ≤ ((rj.up.toNat : Nat) : Int) := by omega
                have hu2 : ((rj.up.toNat : Nat) : Int) ≤ 255 := by have := rj.up.toNat_lt; omega
                have hv1 : (0 : Int) ≤ ((rj.b.toNat : Nat) : Int) := by omega
                have hv2 : ((rj.b.toNat : Nat) : Int) ≤ 255 := by have := rj.b.toNat_lt; omega
                have hbeq : ∀ t : Int, ((rj.b.toNat : Nat) : Int) = t → (rj.b.toNat = b ↔ t = (b : Int)) := fun t ht => by omega
                obtain ⟨bj, hbj⟩ : ∃ t, ((rj.b.toNat : Nat) : Int) = t := ⟨_, rfl⟩
                have HBJ := Lib.hid (hbeq bj hbj)
                rw [hbj] at f5 hv1 hv2
                clear ej hgj hpj hpj2 hlk hbeq hbj
                generalize ((rj.up.toNat : Nat) : Int) = up at f4 q1 hu1 hu2
                by_cases hp : pj = k
                · have hp2 : ((pj : Int) == (k : Int)) = true := by rw [beq_iff_eq]; omega
                  by_cases hbe : bj = (b : Int)
                  · have hbe2 : (bj == (b : Int)) = true := by rw [beq_iff_eq]; exact hbe
                    have HL2 := Lib.hid (show lastK rs k b (j + 1) = j by rw [HLK.out, if_pos ⟨by omega, hp, HBJ.out.2 hbe⟩])
                    clear hp hbe
                    go_wp2
                    exact ⟨⟨j + 1, by omega, by omega, by go_num, by rw [HL2.out], (by repeat (first | exact Still.refl _ | apply Still.step))⟩, by simp [intOf]; omega⟩
                  · have hbe2 : (bj == (b : Int)) = false := by rw [beq_eq_false_iff_ne]; exact hbe
                    have HL2 := Lib.hid (show lastK rs k b (j + 1) = lastK rs k b j by rw [HLK.out, if_neg (fun q => hbe (HBJ.out.1 q.2.2))])
                    clear hp hbe
                    go_wp2
                    exact ⟨⟨j + 1, by omega, by omega, by go_num, by rw [HL2.out], (by repeat (first | exact Still.refl _ | apply Still.step))⟩, by simp [intOf]; omega⟩
                · have hp2 : ((pj : Int) == (k : Int)) = false := by rw [beq_eq_false_iff_ne]; omega
                  have HL2 := Lib.hid (show lastK rs k b (j + 1) = lastK rs k b j by rw [HLK.out, if_neg (fun q => hp q.2.1)])
                  clear hp
                  go_wp2
                  exact ⟨⟨j + 1, by omega, by omega, by go_num, by rw [HL2.out], (by repeat (first | exact Still.refl _ | apply Still.step))⟩, by simp [intOf]; omega⟩
              · obtain rfl : j = n := by omega
                go_wp2_with fail
                go_meet
                exact ⟨rfl, (by repeat (first | exact Still.refl _ | apply Still.step))⟩
          case rest =>
            obtain ⟨rfl, hS⟩ := hcut
            have HD2 := Lib.hid (HD.out.still hS)
            have BV2 := Lib.hid (show Below w.heap.size w wc from HBw.out.trans (hS.below _))
            have BU3 := Lib.hid (show Below W0.heap.size W0 wc from HBr.out.trans (hS.below _))
            have HLT := Lib.hid (lastK_lt rs k b n)
            have HEU := Lib.hid (show esUp rs k n (b + 1) = esUp rs k n b ++ if lastK rs k b n = 0 then [] else [(UInt8.ofNat b, lastK rs k b n)] from rfl)
            obtain ⟨la, hla⟩ : ∃ l, lastK rs k b n = l := ⟨_, rfl⟩
            rw [hla] at HLT HEU ⊢
            clear hS HBw hBw HBr HD hla
            generalize wc = V2 at HD2 BV2 BU3 ⊢
            have hdl : d.len ≤ 1000 := by rw [HM.out, mkG_len]; have := esUp_len rs k n b; omega
            by_cases hl0 : la = 0
            · subst hl0
              have HM2 := Lib.hid (show d = mkG rs (growF rs n f) (esUp rs k n (b + 1)) by rw [HEU.out, if_pos rfl, List.append_nil]; exact HM.out)
              go_wp2
              exact ⟨⟨b + 1, d, vb, vk, css, by omega, by go_num, HD2, HM2, BU3⟩, by simp [intOf]; omega⟩
            · have hlp : (0 : Int) < (la : Int) := by omega
              have hlb : k < la ∧ la < n := by
                rcases HLT.out with h | h
                · exact absurd h hl0
                · exact h
              obtain ⟨li, hli⟩ : ∃ t : Int, (la : Int) = t := ⟨_, rfl⟩
              rw [hli] at hlp ⊢
              have HLI := Lib.hid hli
              have HLB2 := Lib.hid hlb
              have HL0 := Lib.hid hl0
              clear hli hlb hl0
              obtain ⟨Ab, cb, e, _⟩ := HD2.out.byt.slice
              subst e
              obtain ⟨Ak, ck, e, _⟩ := HD2.out.kids.slice
              subst e
              have hbl : d.bytes.length ≤ 1000 := by rw [Fo.bytes_len]; exact hdl
              have hcl : css.length ≤ 1000 := by rw [HD2.out.dis.len]; exact hdl
              have hWs : w.heap.size ≤ W0.heap.size := BW.out.size
              have hWV : W0.heap.size ≤ V2.heap.size := BU3.out.size
              have hob : (((UInt8.ofNat b).toNat : Nat) : Int) = (b : Int) := by rw [UInt8.toNat_ofNat']; omega
              have HOB := Lib.hid hob
              have wu8 : IntKind.u8.wrap (b : Int) = (b : Int) := IntWalk.u8_in _ (by omega)
              have k4 := HD2.out.blk.cell 4
              have MR := Lib.hid (fun (o : Obj) => HD2.out.byt.alloc o)
              have HLB := Lib.hid (show ∀ (j : Nat) (u : Value), ([.int .u8 (b : Int)] : List Value)[j]? = some u → (V2.alloc (.cells #[.int .u8 (b : Int)] 5)).cell? ((⟨V2.heap.size, 0, none⟩ : Addr).add j) = some u from lit_cells (cs := [.int .u8 (b : Int)]) (Blk.new V2 _ _))
              have HB3 := Lib.hid ((Below.refl V2.heap.size V2).alloc (Nat.le_refl _) (.cells #[.int .u8 (b : Int)] 5))
              clear hob
              go_wp2_with (at_builtin
                           refine wpList_append_rws (V2.alloc (.cells #[.int .u8 (b : Int)] 5)) rfl (.tmp 72) (.tmp 75) _ rfl Tryz.underlying42 info_u8r (by rfl) (by decide) W0.heap.size (.slice Ab d.bytes.length cb) d.bytes.length (d.bytes.map fun b => [.int .u8 (b.toNat : Int)]) rfl (MR.out _) ⟨V2.heap.size, 0, none⟩ 1 [.int .u8 (b : Int)] rfl rfl HLB.out (by intro u hu; simp at hu; subst hu; rfl) (by omega) (by unfold maxLen; omega) (by simp; omega) ?_
                           intro v3 U4 m3 g3 o3
                           obtain ⟨A3, c3, rfl, _⟩ := m3.slice
                           rw [← HOB.out] at m3
                           obtain ⟨x1, x2, x3, x4, x5⟩ := HD2.out.addb HB3.out m3 g3 o3
                           have E1 := Lib.hid x3
                           have E4 := Lib.hid (BU3.out.trans x4)
                           clear m3 g3 o3 x3 x4 x5)
              go_upto_region 18 with fail
              clear x1 x2 k4 HD2 MR HLB HB3 BV2 BU3 hWV wu8
              obtain ⟨V3, hV3⟩ : ∃ X, (U4.setCell ⟨g1, 4, none⟩ (.slice A3 (d.bytes.length + 1) c3)) = X := ⟨_, rfl⟩
              rw [hV3] at E1 E4 ⊢
              clear hV3
              have HD3 := Lib.hid E1.out
              have BU4 := Lib.hid E4.out
              clear E1 E4
              have BV3 := Lib.hid (show Below w.heap.size w V3 from BW.out.trans (BU4.out.mono BW.out.size))
              obtain ⟨T, hT⟩ : ∃ T, (nnR (rs.getD la dR), growF rs n f la) = T := ⟨_, rfl⟩
              have HC := Lib.hid (show Calls Tryz.prog 30 #[.slice (some ad) n c, .int .i64 li] V3.drew (RBPost B V3.drew T) from by
                have hlb := HLB2.out
                rw [← hT, ← HLI.out]
                exact ih la n c B (some ad) rs V3.drew (HA.out V3.drew BV3.out.drew) (Nat.le_trans hB BV3.out.drew.size) hlb.2 (by omega) hn HPL.out)
              have HM2 := Lib.hid (show d.app (.cons (UInt8.ofNat b) T.1 T.2 .nil) = mkG rs (growF rs n f) (esUp rs k n (b + 1)) by
                rw [HEU.out, if_neg HL0.out, mkG_app, ← HM.out, ← hT]
                rfl)
              have KB := Lib.hid (fun X (h : Below V3.heap.size V3 X) => show X.cell? ⟨g1, 5, none⟩ = some (.slice Ak css.length ck) from (HD3.out.below h).blk.cell 5)
              have MR := Lib.hid (fun X (h : Below V3.heap.size V3 X) => (HD3.out.below h).kids)
              have hWV : W0.heap.size ≤ V3.heap.size := BU4.out.size
              clear hT
              refine wp_region_held_drew (S := (fun _ => True)) (by kernel_rfl) True.intro (fun hHeld => ?_)
              refine wpAnyH_take (i := 0) (oi := { dst := some 78, op := Op.fieldAddr 45 (Operand.tmp 5) 5, type := 0, pos := "ref.go:259", after := #[], guard := none }) (v := ?v34) rfl (by kernel_rfl) (by kernel_rfl) (by kernel_rfl) (fun _ _ _ h => h) (Or.inl ⟨by rfl, ?hy34⟩) hHeld ?rest34
              case hy34 => (intro w' hSw; (try dsimp only at hSw); go_simp; (try with_reducible rfl))
              try simp only [Act.put, List.setIfInBounds_toArray, List.set_cons_zero, List.set_cons_succ]
              refine wpAnyH_take (i := 2) (oi := { dst := some 80, op := Op.move (Operand.tmp 0), type := 66, pos := "ref.go:259", after := #[], guard := none }) (v := ?v35) rfl (by kernel_rfl) (by kernel_rfl) (by kernel_rfl) (fun _ _ _ h => h) (Or.inl ⟨by rfl, ?hy35⟩) hHeld ?rest35
              case hy35 => (intro w' hSw; (try dsimp only at hSw); go_simp; (try with_reducible rfl))
              try simp only [Act.put, List.setIfInBounds_toArray, List.set_cons_zero, List.set_cons_succ]
              refine wpAnyH_take (i := 3) (oi := { dst := some 81, op := Op.move (Operand.tmp 7), type := 3, pos := "ref.go:259", after := #[], guard := none }) (v := ?v36) rfl (by kernel_rfl) (by kernel_rfl) (by kernel_rfl) (fun _ _ _ h => h) (Or.inl ⟨by rfl, ?hy36⟩) hHeld ?rest36
              case hy36 => (intro w' hSw; (try dsimp only at hSw); go_simp; (try with_reducible rfl))
              try simp only [Act.put, List.setIfInBounds_toArray, List.set_cons_zero, List.set_cons_succ]
              refine wpAnyH_ready (rs := [1, 4]) (by kernel_rfl) (by simp) (AllReadyH.cons (o := { dst := some 79, op := Op.load 43 (Operand.tmp 78), type := 43, pos := "ref.go:259", after := #[{ on := 0, ground := Ground.data }], guard := none }) rfl (fun K hK => ?_) (AllReadyH.cons (o := { dst := some 82, op := Op.call { callee := Callee.value (Operand.func 30), args := #[Operand.tmp 80, Operand.tmp 81], argTypes := #[66, 3] }, type := 45, pos := "ref.go:259", after := #[{ on := 2, ground := Ground.data }, { on := 3, ground := Ground.data }], guard := none }) rfl (fun K hK => ?_) AllReadyH.nil))
              · have cz := KB.out _ (Below.refl V3.heap.size V3).drew
                go_simp
                refine hK.out _ _ True.intro (fun hHeld' => ?_)
                clear hK K hHeld
                have hHeld := hHeld'
                clear hHeld'
                try simp only [Act.put, List.setIfInBounds_toArray, List.set_cons_zero, List.set_cons_succ]
                refine wpAnyH_ready (rs := [4]) (by kernel_rfl) (by simp) (AllReadyH.cons (o := { dst := some 82, op := Op.call { callee := Callee.value (Operand.func 30), args := #[Operand.tmp 80, Operand.tmp 81], argTypes := #[66, 3] }, type := 45, pos := "ref.go:259", after := #[{ on := 2, ground := Ground.data }, { on := 3, ground := Ground.data }], guard := none }) rfl (fun K hK => ?_) AllReadyH.nil)
                go_simp
                (with_reducible refine HC.out.mono ?_)
                rintro e U5 ⟨cs, rfl, y0, b5⟩
                obtain ⟨dv, ek, rfl, y1, y2⟩ := y0
                have X5 := Lib.hid (show DnoS U5 (fun i => i < B ∨ (V3.heap.size ≤ i ∧ i < U5.heap.size)) T.1 T.2 (dv.cells T.1 T.2) from ⟨dv, ek, rfl, y1, y2⟩)
                have B5 := Lib.hid (show Below V3.heap.size V3 U5 from (Below.refl V3.heap.size V3).drew.trans b5)
                clear y1 y2 b5
                rw [show (dv.cells T.1 T.2).toArray = (dArr (kdV T.1 T.2) dv T.1.has T.1.val) from rfl]
                go_wp2_with fail
                refine hK.out _ _ True.intro (fun hHeld' => ?_)
                clear hK K hHeld
                have hHeld := hHeld'
                clear hHeld'
                try simp only [Act.put, List.setIfInBounds_toArray, List.set_cons_zero, List.set_cons_succ]
                refine wpAnyH_ready (rs := [5]) (by kernel_rfl) (by simp) (AllReadyH.cons (o := { dst := some 83, op := Op.buildSlice 43 1 #[(0, Operand.tmp 82)], type := 43, pos := "ref.go:259", after := #[{ on := 4, ground := Ground.data }], guard := none }) rfl (fun K hK => ?_) AllReadyH.nil)
                go_simp
                obtain ⟨U6, hU6⟩ : ∃ W, U5.alloc (.cells (dArr (kdV T.1 T.2) dv T.1.has T.1.val) 45) = W := ⟨_, rfl⟩
                have B56 := Lib.hid (show Below U5.heap.size U5 U6 by rw [← hU6]; exact (Below.refl U5.heap.size U5).alloc (Nat.le_refl _) _)
                have B6 := Lib.hid (show Below V3.heap.size V3 U6 from B5.out.trans (B56.out.mono B5.out.size))
                have LB := Lib.hid (show Blk U6 U5.heap.size (dArr (kdV T.1 T.2) dv T.1.has T.1.val) by rw [← hU6]; exact Blk.new _ _ _)
                rw [hU6]
                clear hU6
                refine hK.out _ _ True.intro (fun hHeld' => ?_)
                clear hK K hHeld
                have hHeld := hHeld'
                clear hHeld'
                try simp only [Act.put, List.setIfInBounds_toArray, List.set_cons_zero, List.set_cons_succ]
                refine wpAnyH_ready (rs := [6]) (by kernel_rfl) (by simp) (AllReadyH.cons (o := { dst := some 84, op := Op.call { callee := Callee.builtin Builtin.append, args := #[Operand.tmp 79, Operand.tmp 83], argTypes := #[43, 43] }, type := 43, pos := "ref.go:259", after := #[{ on := 1, ground := Ground.data }, { on := 5, ground := Ground.data }, { on := 4, ground := Ground.chain }], guard := none }) rfl (fun K hK => ?_) AllReadyH.nil)
                rw [if_pos (by rfl)]
                refine wp_append_rws _ (.tmp 79) (.tmp 83) _ rfl Tryz.underlying43 info_node (by rfl) (by decide) W0.heap.size (.slice Ak css.length ck) css.length css (by rfl) (MR.out _ B6.out) ⟨U5.heap.size, 0, none⟩ 1 (dv.cells T.1 T.2) (by rfl) (by rfl) (lit_cells (cs := dv.cells T.1 T.2) LB.out) (by intro u hu; simp [Dv.cells] at hu; rcases hu with rfl | rfl | rfl | rfl | rfl | rfl <;> rfl) (by omega) (by unfold maxLen; omega) (by have := B6.out.size; omega) ?_
                intro v3 U7 m3 g3 o3
                obtain ⟨A4, c4, rfl, _⟩ := m3.slice
                obtain ⟨x1, x2, x3, x4, x5⟩ := HD3.out.addk B5.out X5.out B56.out (UInt8.ofNat b) m3 g3 o3
                have E1 := Lib.hid x3
                have E4 := Lib.hid (BU4.out.trans x4)
                clear m3 g3 o3 x3 x4 x5
                refine hK.out _ _ True.intro (fun hHeld' => ?_)
                clear hK K hHeld
                have hHeld := hHeld'
                clear hHeld'
                try simp only [Act.put, List.setIfInBounds_toArray, List.set_cons_zero, List.set_cons_succ]
                refine wpAnyH_take (i := 7) (oi := { dst := some 85, op := Op.fieldAddr 45 (Operand.tmp 5) 5, type := 0, pos := "ref.go:259", after := #[{ on := 0, ground := Ground.phase }, { on := 1, ground := Ground.phase }, { on := 2, ground := Ground.phase }, { on := 3, ground := Ground.phase }, { on := 4, ground := Ground.phase }, { on := 5, ground := Ground.phase }, { on := 6, ground := Ground.phase }], guard := none }) (v := ?v37) rfl (by kernel_rfl) (by kernel_rfl) (by kernel_rfl) (fun _ _ _ h => h) (Or.inl ⟨by rfl, ?hy37⟩) hHeld ?rest37
                case hy37 => (intro w' hSw; (try dsimp only at hSw); go_simp; (try with_reducible rfl))
                try simp only [Act.put, List.setIfInBounds_toArray, List.set_cons_zero, List.set_cons_succ]
                refine wpAnyH_ready (rs := [8]) (by kernel_rfl) (by simp) (AllReadyH.cons (o := { dst := none, op := Op.store 43 (Operand.tmp 85) (Operand.tmp 84), type := 0, pos := "ref.go:259", after := #[{ on := 7, ground := Ground.data }, { on := 6, ground := Ground.data }, { on := 6, ground := Ground.chain }, { on := 0, ground := Ground.phase }, { on := 1, ground := Ground.phase }, { on := 2, ground := Ground.phase }, { on := 3, ground := Ground.phase }, { on := 4, ground := Ground.phase }, { on := 5, ground := Ground.phase }, { on := 6, ground := Ground.phase }], guard := none }) rfl (fun K hK => ?_) AllReadyH.nil)
                go_simp
                refine hK.out _ _ True.intro (fun hHeld' => ?_)
                clear hK K hHeld
                have hHeld := hHeld'
                clear hHeld'
                try simp only [Act.put, List.setIfInBounds_toArray, List.set_cons_zero, List.set_cons_succ]
                refine wpAnyH_done (by kernel_rfl) ?_ _
                have HD5 := Lib.hid (DB.as E1.out (by rw [bytes_app]; rfl))
                go_wp2
                exact ⟨⟨b + 1, _, _, _, _, by omega, by go_num, HD5, HM2, E4⟩, by simp [intOf]; omega⟩
              · go_simp
                (with_reducible refine HC.out.mono ?_)
                rintro e U5 ⟨cs, rfl, y0, b5⟩
                obtain ⟨dv, ek, rfl, y1, y2⟩ := y0
                have X5 := Lib.hid (show DnoS U5 (fun i => i < B ∨ (V3.heap.size ≤ i ∧ i < U5.heap.size)) T.1 T.2 (dv.cells T.1 T.2) from ⟨dv, ek, rfl, y1, y2⟩)
                have B5 := Lib.hid (show Below V3.heap.size V3 U5 from (Below.refl V3.heap.size V3).drew.trans b5)
                clear y1 y2 b5
                rw [show (dv.cells T.1 T.2).toArray = (dArr (kdV T.1 T.2) dv T.1.has T.1.val) from rfl]
                go_wp2_with fail
                refine hK.out _ _ True.intro (fun hHeld' => ?_)
                clear hK K hHeld
                have hHeld := hHeld'
                clear hHeld'
                try simp only [Act.put, List.setIfInBounds_toArray, List.set_cons_zero, List.set_cons_succ]
                refine wpAnyH_ready (rs := [1, 5]) (by kernel_rfl) (by simp) (AllReadyH.cons (o := { dst := some 79, op := Op.load 43 (Operand.tmp 78), type := 43, pos := "ref.go:259", after := #[{ on := 0, ground := Ground.data }], guard := none }) rfl (fun K hK => ?_) (AllReadyH.cons (o := { dst := some 83, op := Op.buildSlice 43 1 #[(0, Operand.tmp 82)], type := 43, pos := "ref.go:259", after := #[{ on := 4, ground := Ground.data }], guard := none }) rfl (fun K hK => ?_) AllReadyH.nil))
                · have cz := KB.out _ B5.out
                  go_simp
                  refine hK.out _ _ True.intro (fun hHeld' => ?_)
                  clear hK K hHeld
                  have hHeld := hHeld'
                  clear hHeld'
                  try simp only [Act.put, List.setIfInBounds_toArray, List.set_cons_zero, List.set_cons_succ]
                  refine wpAnyH_ready (rs := [5]) (by kernel_rfl) (by simp) (AllReadyH.cons (o := { dst := some 83, op := Op.buildSlice 43 1 #[(0, Operand.tmp 82)], type := 43, pos := "ref.go:259", after := #[{ on := 4, ground := Ground.data }], guard := none }) rfl (fun K hK => ?_) AllReadyH.nil)
                  go_simp
                  obtain ⟨U6, hU6⟩ : ∃ W, U5.alloc (.cells (dArr (kdV T.1 T.2) dv T.1.has T.1.val) 45) = W := ⟨_, rfl⟩
                  have B56 := Lib.hid (show Below U5.heap.size U5 U6 by rw [← hU6]; exact (Below.refl U5.heap.size U5).alloc (Nat.le_refl _) _)
                  have B6 := Lib.hid (show Below V3.heap.size V3 U6 from B5.out.trans (B56.out.mono B5.out.size))
                  have LB := Lib.hid (show Blk U6 U5.heap.size (dArr (kdV T.1 T.2) dv T.1.has T.1.val) by rw [← hU6]; exact Blk.new _ _ _)
                  rw [hU6]
                  clear hU6
                  refine hK.out _ _ True.intro (fun hHeld' => ?_)
                  clear hK K hHeld
                  have hHeld := hHeld'
                  clear hHeld'
                  try simp only [Act.put, List.setIfInBounds_toArray, List.set_cons_zero, List.set_cons_succ]
                  refine wpAnyH_ready (rs := [6]) (by kernel_rfl) (by simp) (AllReadyH.cons (o := { dst := some 84, op := Op.call { callee := Callee.builtin Builtin.append, args := #[Operand.tmp 79, Operand.tmp 83], argTypes := #[43, 43] }, type := 43, pos := "ref.go:259", after := #[{ on := 1, ground := Ground.data }, { on := 5, ground := Ground.data }, { on := 4, ground := Ground.chain }], guard := none }) rfl (fun K hK => ?_) AllReadyH.nil)
                  rw [if_pos (by rfl)]
                  refine wp_append_rws _ (.tmp 79) (.tmp 83) _ rfl Tryz.underlying43 info_node (by rfl) (by decide) W0.heap.size (.slice Ak css.length ck) css.length css (by rfl) (MR.out _ B6.out) ⟨U5.heap.size, 0, none⟩ 1 (dv.cells T.1 T.2) (by rfl) (by rfl) (lit_cells (cs := dv.cells T.1 T.2) LB.out) (by intro u hu; simp [Dv.cells] at hu; rcases hu with rfl | rfl | rfl | rfl | rfl | rfl <;> rfl) (by omega) (by unfold maxLen; omega) (by have := B6.out.size; omega) ?_
                  intro v3 U7 m3 g3 o3
                  obtain ⟨A4, c4, rfl, _⟩ := m3.slice
                  obtain ⟨x1, x2, x3, x4, x5⟩ := HD3.out.addk B5.out X5.out B56.out (UInt8.ofNat b) m3 g3 o3
                  have E1 := Lib.hid x3
                  have E4 := Lib.hid (BU4.out.trans x4)
                  clear m3 g3 o3 x3 x4 x5
                  refine hK.out _ _ True.intro (fun hHeld' => ?_)
                  clear hK K hHeld
                  have hHeld := hHeld'
                  clear hHeld'
                  try simp only [Act.put, List.setIfInBounds_toArray, List.set_cons_zero, List.set_cons_succ]
                  refine wpAnyH_take (i := 7) (oi := { dst := some 85, op := Op.fieldAddr 45 (Operand.tmp 5) 5, type := 0, pos := "ref.go:259", after := #[{ on := 0, ground := Ground.phase }, { on := 1, ground := Ground.phase }, { on := 2, ground := Ground.phase }, { on := 3, ground := Ground.phase }, { on := 4, ground := Ground.phase }, { on := 5, ground := Ground.phase }, { on := 6, ground := Ground.phase }], guard := none }) (v := ?v38) rfl (by kernel_rfl) (by kernel_rfl) (by kernel_rfl) (fun _ _ _ h => h) (Or.inl ⟨by rfl, ?hy38⟩) hHeld ?rest38
                  case hy38 => (intro w' hSw; (try dsimp only at hSw); go_simp; (try with_reducible rfl))
                  try simp only [Act.put, List.setIfInBounds_toArray, List.set_cons_zero, List.set_cons_succ]
                  refine wpAnyH_ready (rs := [8]) (by kernel_rfl) (by simp) (AllReadyH.cons (o := { dst := none, op := Op.store 43 (Operand.tmp 85) (Operand.tmp 84), type := 0, pos := "ref.go:259", after := #[{ on := 7, ground := Ground.data }, { on := 6, ground := Ground.data }, { on := 6, ground := Ground.chain }, { on := 0, ground := Ground.phase }, { on := 1, ground := Ground.phase }, { on := 2, ground := Ground.phase }, { on := 3, ground := Ground.phase }, { on := 4, ground := Ground.phase }, { on := 5, ground := Ground.phase }, { on := 6, ground := Ground.phase }], guard := none }) rfl (fun K hK => ?_) AllReadyH.nil)
                  go_simp
                  refine hK.out _ _ True.intro (fun hHeld' => ?_)
                  clear hK K hHeld
                  have hHeld := hHeld'
                  clear hHeld'
                  try simp only [Act.put, List.setIfInBounds_toArray, List.set_cons_zero, List.set_cons_succ]
                  refine wpAnyH_done (by kernel_rfl) ?_ _
                  have HD5 := Lib.hid (DB.as E1.out (by rw [bytes_app]; rfl))
                  go_wp2
                  exact ⟨⟨b + 1, _, _, _, _, by omega, by go_num, HD5, HM2, E4⟩, by simp [intOf]; omega⟩
                · go_simp
                  obtain ⟨U6, hU6⟩ : ∃ W, U5.alloc (.cells (dArr (kdV T.1 T.2) dv T.1.has T.1.val) 45) = W := ⟨_, rfl⟩
                  have B56 := Lib.hid (show Below U5.heap.size U5 U6 by rw [← hU6]; exact (Below.refl U5.heap.size U5).alloc (Nat.le_refl _) _)
                  have B6 := Lib.hid (show Below V3.heap.size V3 U6 from B5.out.trans (B56.out.mono B5.out.size))
                  have LB := Lib.hid (show Blk U6 U5.heap.size (dArr (kdV T.1 T.2) dv T.1.has T.1.val) by rw [← hU6]; exact Blk.new _ _ _)
                  rw [hU6]
                  clear hU6
                  refine hK.out _ _ True.intro (fun hHeld' => ?_)
                  clear hK K hHeld
                  have hHeld := hHeld'
                  clear hHeld'
                  try simp only [Act.put, List.setIfInBounds_toArray, List.set_cons_zero, List.set_cons_succ]
                  refine wpAnyH_ready (rs := [1]) (by kernel_rfl) (by simp) (AllReadyH.cons (o := { dst := some 79, op := Op.load 43 (Operand.tmp 78), type := 43, pos := "ref.go:259", after := #[{ on := 0, ground := Ground.data }], guard := none }) rfl (fun K hK => ?_) AllReadyH.nil)
                  have cz := KB.out _ B6.out
                  go_simp
                  refine hK.out _ _ True.intro (fun hHeld' => ?_)
                  clear hK K hHeld
                  have hHeld := hHeld'
                  clear hHeld'
                  try simp only [Act.put, List.setIfInBounds_toArray, List.set_cons_zero, List.set_cons_succ]
                  refine wpAnyH_ready (rs := [6]) (by kernel_rfl) (by simp) (AllReadyH.cons (o := { dst := some 84, op := Op.call { callee := Callee.builtin Builtin.append, args := #[Operand.tmp 79, Operand.tmp 83], argTypes := #[43, 43] }, type := 43, pos := "ref.go:259", after := #[{ on := 1, ground := Ground.data }, { on := 5, ground := Ground.data }, { on := 4, ground := Ground.chain }], guard := none }) rfl (fun K hK => ?_) AllReadyH.nil)
                  rw [if_pos (by rfl)]
                  refine wp_append_rws _ (.tmp 79) (.tmp 83) _ rfl Tryz.underlying43 info_node (by rfl) (by decide) W0.heap.size (.slice Ak css.length ck) css.length css (by rfl) (MR.out _ B6.out) ⟨U5.heap.size, 0, none⟩ 1 (dv.cells T.1 T.2) (by rfl) (by rfl) (lit_cells (cs := dv.cells T.1 T.2) LB.out) (by intro u hu; simp [Dv.cells] at hu; rcases hu with rfl | rfl | rfl | rfl | rfl | rfl <;> rfl) (by omega) (by unfold maxLen; omega) (by have := B6.out.size; omega) ?_
                  intro v3 U7 m3 g3 o3
                  obtain ⟨A4, c4, rfl, _⟩ := m3.slice
                  obtain ⟨x1, x2, x3, x4, x5⟩ := HD3.out.addk B5.out X5.out B56.out (UInt8.ofNat b) m3 g3 o3
                  have E1 := Lib.hid x3
                  have E4 := Lib.hid (BU4.out.trans x4)
                  clear m3 g3 o3 x3 x4 x5
                  refine hK.out _ _ True.intro (fun hHeld' => ?_)
                  clear hK K hHeld
                  have hHeld := hHeld'
                  clear hHeld'
                  try simp only [Act.put, List.setIfInBounds_toArray, List.set_cons_zero, List.set_cons_succ]
                  refine wpAnyH_take (i := 7) (oi := { dst := some 85, op := Op.fieldAddr 45 (Operand.tmp 5) 5, type := 0, pos := "ref.go:259", after := #[{ on := 0, ground := Ground.phase }, { on := 1, ground := Ground.phase }, { on := 2, ground := Ground.phase }, { on := 3, ground := Ground.phase }, { on := 4, ground := Ground.phase }, { on := 5, ground := Ground.phase }, { on := 6, ground := Ground.phase }], guard := none }) (v := ?v39) rfl (by kernel_rfl) (by kernel_rfl) (by kernel_rfl) (fun _ _ _ h => h) (Or.inl ⟨by rfl, ?hy39⟩) hHeld ?rest39
                  case hy39 => (intro w' hSw; (try dsimp only at hSw); go_simp; (try with_reducible rfl))
                  try simp only [Act.put, List.setIfInBounds_toArray, List.set_cons_zero, List.set_cons_succ]
                  refine wpAnyH_ready (rs := [8]) (by kernel_rfl) (by simp) (AllReadyH.cons (o := { dst := none, op := Op.store 43 (Operand.tmp 85) (Operand.tmp 84), type := 0, pos := "ref.go:259", after := #[{ on := 7, ground := Ground.data }, { on := 6, ground := Ground.data }, { on := 6, ground := Ground.chain }, { on := 0, ground := Ground.phase }, { on := 1, ground := Ground.phase }, { on := 2, ground := Ground.phase }, { on := 3, ground := Ground.phase }, { on := 4, ground := Ground.phase }, { on := 5, ground := Ground.phase }, { on := 6, ground := Ground.phase }], guard := none }) rfl (fun K hK => ?_) AllReadyH.nil)
                  go_simp
                  refine hK.out _ _ True.intro (fun hHeld' => ?_)
                  clear hK K hHeld
                  have hHeld := hHeld'
                  clear hHeld'
                  try simp only [Act.put, List.setIfInBounds_toArray, List.set_cons_zero, List.set_cons_succ]
                  refine wpAnyH_done (by kernel_rfl) ?_ _
                  have HD5 := Lib.hid (DB.as E1.out (by rw [bytes_app]; rfl))
                  go_wp2
                  exact ⟨⟨b + 1, _, _, _, _, by omega, by go_num, HD5, HM2, E4⟩, by simp [intOf]; omega⟩
        · obtain rfl : b = 256 := by omega
          have hTT : (nnR (rs.getD k dR), growF rs n (f + 1) k) = (⟨false, 1, r.part, r.val, true⟩, d) := by rw [HX.out, HM.out]
          have hd256 : d.len ≤ 256 := by rw [HM.out, mkG_len]; exact esUp_len rs k n 256
          obtain ⟨Ab, cb, e, _⟩ := HD.out.byt.slice
          subst e
          obtain ⟨Ak, ck, e, _⟩ := HD.out.kids.slice
          subst e
          have hcl : css.length = d.len := HD.out.dis.len
          have hkd := (kd_inner (x := ⟨false, 1, r.part, r.val, true⟩) d rfl).1
          have CZ := Lib.hid (show Calls Tryz.prog 61 #[.int .i64 (css.length : Int)] wr fun e w' => e = .returned (.int .i64 (kindN d.len : Int)) ∧ w' = wr from by rw [hcl, ← kindZ_nat hd256]; exact rkindof_any wr _)
          have kk : Kept (· = g1) wr (wr.setCell ⟨g1, 0, none⟩ (.int .i64 (kindN d.len : Int))) := Kept.set_ _ _ _ rfl
          have hb0 : Blk (wr.setCell ⟨g1, 0, none⟩ (.int .i64 (kindN d.len : Int))) g1 #[.int .i64 (kindN d.len : Int), .slice r.A r.n r.c, .bool true, .int .u64 r.val, .slice Ab d.bytes.length cb, .slice Ak css.length ck] := by simpa using HD.out.blk.set_ 0 (.int .i64 (kindN d.len : Int))
          have hD5 := HD.out.turn kk hb0
          have hBU : Below W0.heap.size W0 (wr.setCell ⟨g1, 0, none⟩ (.int .i64 (kindN d.len : Int))) := HBr.out.trans (kk.below HBr.out.size (fun i e => by have := HG1.out; omega))
          have hBWU := BW.out.trans (hBU.mono BW.out.size)
          have hdn := (show DB B W0.heap.size (wr.setCell ⟨g1, 0, none⟩ (.int .i64 (kindN d.len : Int))) g1 (.int .i64 (kdV ⟨false, 1, r.part, r.val, true⟩ d)) (.slice r.A r.n r.c) (.bool true) (.int .u64 r.val) (.slice Ab d.bytes.length cb) (.slice Ak css.length ck) d.bytes css d by rw [hkd]; exact hD5).done (x := ⟨false, 1, r.part, r.val, true⟩) (HBP.out _ hBWU) HPB.out HRC.out (lo := W0.heap.size) (Nat.le_refl _)
          rw [hkd] at hdn
          have hzz : Lst (wr.setCell ⟨g1, 0, none⟩ (.int .i64 (kindN d.len : Int))) w.heap.size [.int .i64 0, .slice none 0 0, .bool false, .int .u64 0, .slice none 0 0, .slice none 0 0] := Blk.below ZW.out hBU (by have := SW.out; omega)
          obtain ⟨h1', h2', h3'⟩ := hand_over hdn hzz rfl hB (by have := SW.out; omega) hBWU
          have HN6 := Lib.hid (node_six hdn).2
          have HTH := Lib.hid (Lst.there hzz (o := 0) (n := 6) (Nat.le_refl _))
          have H1 := Lib.hid h1'
          have H2 := Lib.hid h2'
          have H3 := Lib.hid h3'
          have HTE := Lib.hid hTT
          have k0 := HD.out.blk.cell 0
          have k1 := HD.out.blk.cell 1
          have k2 := HD.out.blk.cell 2
          have k3 := HD.out.blk.cell 3
          have k4 := HD.out.blk.cell 4
          have k5 := HD.out.blk.cell 5
          have z0 := HD.out.blk.fz 0
          clear hd256 h1 hb hcl hTT hkd kk hb0 hD5 hBU hBWU hdn hzz h1' h2' h3' hBw HBw
          generalize (kindN d.len : Int) = kz at CZ HN6 HTH H1 H2 H3
          go_wp2_with fail
          (with_reducible refine CZ.out.mono ?_)
          rintro e w2 ⟨rfl, rfl⟩
          go_wp2_with (refine wpList_store_mid rfl 45 (.tmp 4) (.tmp 91) rfl w.heap.size 0 ([.int .i64 kz, .slice r.A r.n r.c, .bool true, .int .u64 r.val, .slice Ab d.bytes.length cb, .slice Ak css.length ck] : List Value).toArray (by rfl) (by rfl) HTH.out size_node HN6.out ?_)
          (try simp only [Exit.inBlock, Exit.then])
          refine bodyPost_ret (node_ret Tryz.f30 rfl _ H1.out rfl (by rfl)) (by rfl) ?_
          exact ⟨_, rfl, by rw [HTE.out]; exact H2.out, H3.out⟩

    | false =>
      rw [hhs] at HC0
      have HX := Lib.hid (show (nnR (rs.getD k dR), growF rs n (f + 1) k) = (⟨false, 1, r.part, 0, false⟩, mkG rs (growF rs n f) (esUp rs k n 256)) from by
        rw [HES.out]
        unfold growF nnR
        rw [hgd, hlf, hhs]
        rfl)
      have kk : Kept (· = g1) U2 ((U2.setCell ⟨g1, 2, none⟩ (.bool false)).setCell ⟨g1, 3, none⟩ (.int .u64 0)) := (Kept.set_ (D := (· = g1)) _ ⟨g1, 2, none⟩ _ rfl).trans (Kept.set_ (D := (· = g1)) _ ⟨g1, 3, none⟩ _ rfl)
      have hb1 : Blk (U2.setCell ⟨g1, 2, none⟩ (.bool false)) g1 #[.int .i64 1, .slice r.A r.n r.c, .bool false, .int .u64 r.val, .slice none 0 0, .slice none 0 0] := by simpa using ZU2.out.set_ 2 (.bool false)
      have hb0 : Blk ((U2.setCell ⟨g1, 2, none⟩ (.bool false)).setCell ⟨g1, 3, none⟩ (.int .u64 0)) g1 #[.int .i64 1, .slice r.A r.n r.c, .bool false, .int .u64 0, .slice none 0 0, .slice none 0 0] := by simpa using hb1.set_ 3 (.int .u64 0)
      have D2 := Lib.hid (show DB B W0.heap.size ((U2.setCell ⟨g1, 2, none⟩ (.bool false)).setCell ⟨g1, 3, none⟩ (.int .u64 0)) g1 (.int .i64 1) (.slice r.A r.n r.c) (.bool false) (.int .u64 0) (.slice none 0 0) (.slice none 0 0) [] [] .nil from DB.start hb0 (by omega) (by have := HG1.out; omega))
      have BW2 := Lib.hid (show Below W0.heap.size W0 ((U2.setCell ⟨g1, 2, none⟩ (.bool false)).setCell ⟨g1, 3, none⟩ (.int .u64 0)) from BU2.out.trans (kk.below BU2.out.size (fun i e => by have := HG1.out; omega)))
      clear hlf hgd hhs kk hb0 hb1
      go_enter Tryz.func30, Tryz.ntmps30
      go_wp2_with fail
      refine wp_region_held_drew (S := (fun V => V.cell? ⟨(ad.add (k * 6)).block, (ad.add (k * 6)).off + 1, none⟩ = some (.slice r.A r.n r.c) ∧ V.cell? ⟨(ad.add (k * 6)).block, (ad.add (k * 6)).off + 3, none⟩ = some (.int .u64 r.val))) (by kernel_rfl) (HCC.out _ BW.out.drew) (fun hHeld => ?_)
      refine wpAnyH_take (i := 0) (oi := { dst := some 9, op := Op.move (Operand.tmp 0), type := 66, pos := "ref.go:242", after := #[], guard := none }) (v := ?v23) rfl (by kernel_rfl) (by kernel_rfl) (by kernel_rfl) (fun _ _ _ h => h) (Or.inl ⟨by rfl, ?hy23⟩) hHeld ?rest23
      case hy23 => (intro w' hSw; (try dsimp only at hSw); go_simp; (try with_reducible rfl))
      try simp only [Act.put, List.setIfInBounds_toArray, List.set_cons_zero, List.set_cons_succ]
      refine wpAnyH_take (i := 1) (oi := { dst := some 10, op := Op.move (Operand.tmp 1), type := 3, pos := "ref.go:242", after := #[], guard := none }) (v := ?v24) rfl (by kernel_rfl) (by kernel_rfl) (by kernel_rfl) (fun _ _ _ h => h) (Or.inl ⟨by rfl, ?hy24⟩) hHeld ?rest24
      case hy24 => (intro w' hSw; (try dsimp only at hSw); go_simp; (try with_reducible rfl))
      try simp only [Act.put, List.setIfInBounds_toArray, List.set_cons_zero, List.set_cons_succ]
      refine wpAnyH_take (i := 2) (oi := { dst := some 11, op := Op.indexAddr 66 (Operand.tmp 9) (Operand.tmp 10), type := 0, pos := "ref.go:242", after := #[{ on := 0, ground := Ground.data }, { on := 1, ground := Ground.data }], guard := none }) (v := ?v25) rfl (by kernel_rfl) (by kernel_rfl) (by kernel_rfl) (fun _ _ _ h => h) (Or.inl ⟨by rfl, ?hy25⟩) hHeld ?rest25
      case hy25 => (intro w' hSw; (try dsimp only at hSw); go_simp; (try with_reducible rfl))
      try simp only [Act.put, List.setIfInBounds_toArray, List.set_cons_zero, List.set_cons_succ]
      refine wpAnyH_take (i := 3) (oi := { dst := some 12, op := Op.fieldAddr 68 (Operand.tmp 11) 1, type := 0, pos := "ref.go:242", after := #[{ on := 2, ground := Ground.data }], guard := none }) (v := ?v26) rfl (by kernel_rfl) (by kernel_rfl) (by kernel_rfl) (fun _ _ _ h => h) (Or.inl ⟨by rfl, ?hy26⟩) hHeld ?rest26
      case hy26 => (intro w' hSw; (try dsimp only at hSw); go_simp; (try with_reducible rfl))
      try simp only [Act.put, List.setIfInBounds_toArray, List.set_cons_zero, List.set_cons_succ]
      refine wpAnyH_take (i := 4) (oi := { dst := some 13, op := Op.load 42 (Operand.tmp 12), type := 42, pos := "ref.go:242", after := #[{ on := 3, ground := Ground.data }], guard := none }) (v := ?v27) rfl (by kernel_rfl) (by kernel_rfl) (by kernel_rfl) (fun _ _ _ h => h) (Or.inl ⟨by rfl, ?hy27⟩) hHeld ?rest27
      case hy27 => (intro w' hSw; (try dsimp only at hSw); go_simp; (try with_reducible rfl))
      try simp only [Act.put, List.setIfInBounds_toArray, List.set_cons_zero, List.set_cons_succ]
      refine wpAnyH_take (i := 5) (oi := { dst := some 14, op := Op.move (Operand.tmp 0), type := 66, pos := "ref.go:242", after := #[], guard := none }) (v := ?v28) rfl (by kernel_rfl) (by kernel_rfl) (by kernel_rfl) (fun _ _ _ h => h) (Or.inl ⟨by rfl, ?hy28⟩) hHeld ?rest28
      case hy28 => (intro w' hSw; (try dsimp only at hSw); go_simp; (try with_reducible rfl))
      try simp only [Act.put, List.setIfInBounds_toArray, List.set_cons_zero, List.set_cons_succ]
      refine wpAnyH_take (i := 6) (oi := { dst := some 15, op := Op.move (Operand.tmp 1), type := 3, pos := "ref.go:242", after := #[], guard := none }) (v := ?v29) rfl (by kernel_rfl) (by kernel_rfl) (by kernel_rfl) (fun _ _ _ h => h) (Or.inl ⟨by rfl, ?hy29⟩) hHeld ?rest29
      case hy29 => (intro w' hSw; (try dsimp only at hSw); go_simp; (try with_reducible rfl))
      try simp only [Act.put, List.setIfInBounds_toArray, List.set_cons_zero, List.set_cons_succ]
      refine wpAnyH_take (i := 7) (oi := { dst := some 16, op := Op.indexAddr 66 (Operand.tmp 14) (Operand.tmp 15), type := 0, pos := "ref.go:242", after := #[{ on := 5, ground := Ground.data }, { on := 6, ground := Ground.data }], guard := none }) (v := ?v30) rfl (by kernel_rfl) (by kernel_rfl) (by kernel_rfl) (fun _ _ _ h => h) (Or.inl ⟨by rfl, ?hy30⟩) hHeld ?rest30
      case hy30 => (intro w' hSw; (try dsimp only at hSw); go_simp; (try with_reducible rfl))
      try simp only [Act.put, List.setIfInBounds_toArray, List.set_cons_zero, List.set_cons_succ]
      refine wpAnyH_take (i := 8) (oi := { dst := some 17, op := Op.fieldAddr 68 (Operand.tmp 16) 3, type := 0, pos := "ref.go:242", after := #[{ on := 7, ground := Ground.data }], guard := none }) (v := ?v31) rfl (by kernel_rfl) (by kernel_rfl) (by kernel_rfl) (fun _ _ _ h => h) (Or.inl ⟨by rfl, ?hy31⟩) hHeld ?rest31
      case hy31 => (intro w' hSw; (try dsimp only at hSw); go_simp; (try with_reducible rfl))
      try simp only [Act.put, List.setIfInBounds_toArray, List.set_cons_zero, List.set_cons_succ]
      refine wpAnyH_take (i := 9) (oi := { dst := some 18, op := Op.load 37 (Operand.tmp 17), type := 37, pos := "ref.go:242", after := #[{ on := 8, ground := Ground.data }], guard := none }) (v := ?v32) rfl (by kernel_rfl) (by kernel_rfl) (by kernel_rfl) (fun _ _ _ h => h) (Or.inl ⟨by rfl, ?hy32⟩) hHeld ?rest32
      case hy32 => (intro w' hSw; (try dsimp only at hSw); go_simp; (try with_reducible rfl))
      try simp only [Act.put, List.setIfInBounds_toArray, List.set_cons_zero, List.set_cons_succ]
      refine wpAnyH_take (i := 10) (oi := { dst := some 19, op := Op.build 45 #[(0, Operand.const (Value.int IntKind.i64 1)), (1, Operand.tmp 13), (2, Operand.const (Value.bool true)), (3, Operand.tmp 18)], type := 45, pos := "ref.go:242", after := #[{ on := 4, ground := Ground.data }, { on := 9, ground := Ground.data }], guard := none }) (v := ?v33) rfl (by kernel_rfl) (by kernel_rfl) (by kernel_rfl) (fun _ _ _ h => h) (Or.inl ⟨by rfl, ?hy33⟩) hHeld ?rest33
      case hy33 => (intro w' hSw; (try dsimp only at hSw); go_simp; (try with_reducible rfl))
      try simp only [Act.put, List.setIfInBounds_toArray, List.set_cons_zero, List.set_cons_succ]
      refine wpAnyH_ready (rs := [11]) (by kernel_rfl) (by simp) (AllReadyH.cons (o := { dst := some 5, op := Op.alloc 45, type := 0, pos := "ref.go:242", after := #[], guard := none }) rfl (fun K hK => ?_) AllReadyH.nil)
      go_simp
      rw [HU1.out]
      refine hK.out _ _ (HCC.out _ (BW.out.trans (BU1.out.mono BW.out.size))) (fun hHeld' => ?_)
      clear hK K hHeld
      have hHeld := hHeld'
      clear hHeld'
      try simp only [Act.put, List.setIfInBounds_toArray, List.set_cons_zero, List.set_cons_succ]
      refine wpAnyH_ready (rs := [12]) (by kernel_rfl) (by simp) (AllReadyH.cons (o := { dst := none, op := Op.store 45 (Operand.tmp 5) (Operand.tmp 19), type := 0, pos := "ref.go:242", after := #[{ on := 11, ground := Ground.data }, { on := 10, ground := Ground.data }, { on := 0, ground := Ground.phase }, { on := 1, ground := Ground.phase }, { on := 2, ground := Ground.phase }, { on := 3, ground := Ground.phase }, { on := 4, ground := Ground.phase }, { on := 5, ground := Ground.phase }, { on := 6, ground := Ground.phase }, { on := 7, ground := Ground.phase }, { on := 8, ground := Ground.phase }, { on := 9, ground := Ground.phase }, { on := 10, ground := Ground.phase }, { on := 11, ground := Ground.phase }], guard := none }) rfl (fun K hK => ?_) AllReadyH.nil)
      rw [if_pos (by rfl)]
      refine wp_store_mid 45 (.tmp 5) (.tmp 19) (by rfl) g1 0 ([.int .i64 1, .slice r.A r.n r.c, .bool true, .int .u64 r.val, .slice none 0 0, .slice none 0 0] : List Value).toArray (by rfl) (by rfl) HTH1.out size_node HO1.out ?_
      rw [show (([.int .i64 1, .slice r.A r.n r.c, .bool true, .int .u64 r.val, .slice none 0 0, .slice none 0 0] : List Value).toArray).toList = [.int .i64 1, .slice r.A r.n r.c, .bool true, .int .u64 r.val, .slice none 0 0, .slice none 0 0] from rfl, HU2.out]
      simp only [Act.put]
      refine hK.out _ _ (HCC.out _ (BW.out.trans (BU2.out.mono BW.out.size))) (fun hHeld' => ?_)
      clear hK K hHeld
      have hHeld := hHeld'
      clear hHeld'
      try simp only [Act.put, List.setIfInBounds_toArray, List.set_cons_zero, List.set_cons_succ]
      refine wpAnyH_done (by kernel_rfl) ?_ _
      have cl := (HC0.out U2 (BW.out.trans (BU2.out.mono BW.out.size)))
      have cl1 := cl.1
      have cl2 := cl.2
      clear cl
      have k0 := Blk.cell ZU2.out 0
      have k1 := Blk.cell ZU2.out 1
      have k2 := Blk.cell ZU2.out 2
      have k3 := Blk.cell ZU2.out 3
      have k4 := Blk.cell ZU2.out 4
      have k5 := Blk.cell ZU2.out 5
      have z2 := Blk.fz ZU2.out 2
      have z3 := Blk.fz ZU2.out 3
      go_upto_region 7 with fail
      clear k0 k1 k2 k3 k4 k5 z2 z3 cl1 cl2
      generalize ((U2.setCell ⟨g1, 2, none⟩ (.bool false)).setCell ⟨g1, 3, none⟩ (.int .u64 0)) = W2 at D2 BW2 ⊢
      go_wp2_with fail
      go_loopw [6] (fun bv wr => ∃ (b : Nat) (d : Fo) (vb vk : Value) (css : List (List Value)), b ≤ 256 ∧ bv = .int .i64 b ∧ Hid (DB B W0.heap.size wr g1 (.int .i64 1) (.slice r.A r.n r.c) (.bool false) (.int .u64 0) vb vk d.bytes css d) ∧ Hid (d = mkG rs (growF rs n f) (esUp rs k n b)) ∧ Hid (Below W0.heap.size W0 wr)) (fun bv _ => 256 - (intOf bv).toNat)
      case atStart => exact ⟨0, .nil, _, _, [], Nat.zero_le _, rfl, D2, Lib.hid rfl, BW2⟩
      case round =>
        obtain ⟨b, d, vb, vk, css, hb, rfl, HD, HM, HBr⟩ := hrel
        have hBw := BW.out.trans (HBr.out.mono BW.out.size)
        have HBw := Lib.hid hBw
        by_cases h1 : b < 256
        · have h1' : (b : Int) < 256 := by omega
          clear h1 hb
          go_upto_block 2 with fail
          go_cut [7] (fun lv wc => lv = .int .i64 (lastK rs k b n) ∧ Still wr wc)
          case first =>
            go_wp2_with fail
            go_loopw [7, 8] (fun lv jv wq => ∃ j : Nat, k + 1 ≤ j ∧ j ≤ n ∧ jv = .int .i64 j ∧ lv = .int .i64 (lastK rs k b j) ∧ Still wr wq) (fun _ jv _ => n - (intOf jv).toNat)
            case atStart => exact ⟨k + 1, Nat.le_refl _, by omega, by go_num, by rw [lastK_start rs k b (k + 1) (Nat.le_refl _)]; rfl, Still.refl _⟩
            case round =>
              obtain ⟨j, hj0, hj, rfl, rfl, tq, rfl⟩ := hrel
              by_cases h2 : j < n
              · obtain ⟨_, rj, e0, _, ej, _, _, _, _, f4, f5, _⟩ := (HA.out wr HBw.out).at6 h2
                cases e0
                have hgj : rs.getD j dR = rj := by rw [List.getD_eq_getElem?_getD, ej]; rfl
                have hpj : parR rs j = rj.up.toNat % j := by unfold parR; rw [hgj]
                have hlk : lastK rs k b (j + 1) = if k < j ∧ parR rs j = k ∧ rj.b.toNat = b then j else lastK rs k b j := by rw [← hgj]; rfl
                have HLK := Lib.hid hlk
                have hjn : (j : Int) < (n : Int) := by omega
                have hj00 : ((j : Int) == 0) = false := by rw [beq_eq_false_iff_ne]; omega
                obtain ⟨pj, hpj2⟩ : ∃ q, parR rs j = q := ⟨_, rfl⟩
                have q1 : ((rj.up.toNat : Nat) : Int).tmod (j : Int) = (pj : Int) := by
                  rw [Int.tmod_eq_emod_of_nonneg (by omega), ← hpj2, hpj]
                  omega
                have hpl2 : pj < j := by rw [← hpj2]; exact Nat.mod_lt _ (by omega)
                rw [hpj2] at HLK
                have hu1 : (0 : Int) ≤ ((rj.up.toNat : Nat) : Int) := by omega
                have hu2 : ((rj.up.toNat : Nat) : Int) ≤ 255 := by have := rj.up.toNat_lt; omega
                have hv1 : (0 : Int) ≤ ((rj.b.toNat : Nat) : Int) := by omega
                have hv2 : ((rj.b.toNat : Nat) : Int) ≤ 255 := by have := rj.b.toNat_lt; omega
                have hbeq : ∀ t : Int, ((rj.b.toNat : Nat) : Int) = t → (rj.b.toNat = b ↔ t = (b : Int)) := fun t ht => by omega
                obtain ⟨bj, hbj⟩ : ∃ t, ((rj.b.toNat : Nat) : Int) = t := ⟨_, rfl⟩
                have HBJ := Lib.hid (hbeq bj hbj)
                rw [hbj] at f5 hv1 hv2
                clear ej hgj hpj hpj2 hlk hbeq hbj
                generalize ((rj.up.toNat : Nat) : Int) = up at f4 q1 hu1 hu2
                by_cases hp : pj = k
                · have hp2 : ((pj : Int) == (k : Int)) = true := by rw [beq_iff_eq]; omega
                  by_cases hbe : bj = (b : Int)
                  · have hbe2 : (bj == (b : Int)) = true := by rw [beq_iff_eq]; exact hbe
                    have HL2 := Lib.hid (show lastK rs k b (j + 1) = j by rw [HLK.out, if_pos ⟨by omega, hp, HBJ.out.2 hbe⟩])
                    clear hp hbe
                    go_wp2
                    exact ⟨⟨j + 1, by omega, by omega, by go_num, by rw [HL2.out], (by repeat (first | exact Still.refl _ | apply Still.step))⟩, by simp [intOf]; omega⟩
                  · have hbe2 : (bj == (b : Int)) = false := by rw [beq_eq_false_iff_ne]; exact hbe
                    have HL2 := Lib.hid (show lastK rs k b (j + 1) = lastK rs k b j by rw [HLK.out, if_neg (fun q => hbe (HBJ.out.1 q.2.2))])
                    clear hp hbe
                    go_wp2
                    exact ⟨⟨j + 1, by omega, by omega, by go_num, by rw [HL2.out], (by repeat (first | exact Still.refl _ | apply Still.step))⟩, by simp [intOf]; omega⟩
                · have hp2 : ((pj : Int) == (k : Int)) = false := by rw [beq_eq_false_iff_ne]; omega
                  have HL2 := Lib.hid (show lastK rs k b (j + 1) = lastK rs k b j by rw [HLK.out, if_neg (fun q => hp q.2.1)])
                  clear hp
                  go_wp2
                  exact ⟨⟨j + 1, by omega, by omega, by go_num, by rw [HL2.out], (by repeat (first | exact Still.refl _ | apply Still.step))⟩, by simp [intOf]; omega⟩
              · obtain rfl : j = n := by omega
                go_wp2_with fail
                go_meet
                exact ⟨rfl, (by repeat (first | exact Still.refl _ | apply Still.step))⟩
          case rest =>
            obtain ⟨rfl, hS⟩ := hcut
            have HD2 := Lib.hid (HD.out.still hS)
            have BV2 := Lib.hid (show Below w.heap.size w wc from HBw.out.trans (hS.below _))
            have BU3 := Lib.hid (show Below W0.heap.size W0 wc from HBr.out.trans (hS.below _))
            have HLT := Lib.hid (lastK_lt rs k b n)
            have HEU := Lib.hid (show esUp rs k n (b + 1) = esUp rs k n b ++ if lastK rs k b n = 0 then [] else [(UInt8.ofNat b, lastK rs k b n)] from rfl)
            obtain ⟨la, hla⟩ : ∃ l, lastK rs k b n = l := ⟨_, rfl⟩
            rw [hla] at HLT HEU ⊢
            clear hS HBw hBw HBr HD hla
            generalize wc = V2 at HD2 BV2 BU3 ⊢
            have hdl : d.len ≤ 1000 := by rw [HM.out, mkG_len]; have := esUp_len rs k n b; omega
            by_cases hl0 : la = 0
            · subst hl0
              have HM2 := Lib.hid (show d = mkG rs (growF rs n f) (esUp rs k n (b + 1)) by rw [HEU.out, if_pos rfl, List.append_nil]; exact HM.out)
              go_wp2
              exact ⟨⟨b + 1, d, vb, vk, css, by omega, by go_num, HD2, HM2, BU3⟩, by simp [intOf]; omega⟩
            · have hlp : (0 : Int) < (la : Int) := by omega
              have hlb : k < la ∧ la < n := by
                rcases HLT.out with h | h
                · exact absurd h hl0
                · exact h
              obtain ⟨li, hli⟩ : ∃ t : Int, (la : Int) = t := ⟨_, rfl⟩
              rw [hli] at hlp ⊢
              have HLI := Lib.hid hli
              have HLB2 := Lib.hid hlb
              have HL0 := Lib.hid hl0
              clear hli hlb hl0
              obtain ⟨Ab, cb, e, _⟩ := HD2.out.byt.slice
              subst e
              obtain ⟨Ak, ck, e, _⟩ := HD2.out.kids.slice
              subst e
              have hbl : d.bytes.length ≤ 1000 := by rw [Fo.bytes_len]; exact hdl
              have hcl : css.length ≤ 1000 := by rw [HD2.out.dis.len]; exact hdl
              have hWs : w.heap.size ≤ W0.heap.size := BW.out.size
              have hWV : W0.heap.size ≤ V2.heap.size := BU3.out.size
              have hob : (((UInt8.ofNat b).toNat : Nat) : Int) = (b : Int) := by rw [UInt8.toNat_ofNat']; omega
              have HOB := Lib.hid hob
              have wu8 : IntKind.u8.wrap (b : Int) = (b : Int) := IntWalk.u8_in _ (by omega)
              have k4 := HD2.out.blk.cell 4
              have MR := Lib.hid (fun (o : Obj) => HD2.out.byt.alloc o)
              have HLB := Lib.hid (show ∀ (j : Nat) (u : Value), ([.int .u8 (b : Int)] : List Value)[j]? = some u → (V2.alloc (.cells #[.int .u8 (b : Int)] 5)).cell? ((⟨V2.heap.size, 0, none⟩ : Addr).add j) = some u from lit_cells (cs := [.int .u8 (b : Int)]) (Blk.new V2 _ _))
              have HB3 := Lib.hid ((Below.refl V2.heap.size V2).alloc (Nat.le_refl _) (.cells #[.int .u8 (b : Int)] 5))
              clear hob
              go_wp2_with (at_builtin
                           refine wpList_append_rws (V2.alloc (.cells #[.int .u8 (b : Int)] 5)) rfl (.tmp 72) (.tmp 75) _ rfl Tryz.underlying42 info_u8r (by rfl) (by decide) W0.heap.size (.slice Ab d.bytes.length cb) d.bytes.length (d.bytes.map fun b => [.int .u8 (b.toNat : Int)]) rfl (MR.out _) ⟨V2.heap.size, 0, none⟩ 1 [.int .u8 (b : Int)] rfl rfl HLB.out (by intro u hu; simp at hu; subst hu; rfl) (by omega) (by unfold maxLen; omega) (by simp; omega) ?_
                           intro v3 U4 m3 g3 o3
                           obtain ⟨A3, c3, rfl, _⟩ := m3.slice
                           rw [← HOB.out] at m3
                           obtain ⟨x1, x2, x3, x4, x5⟩ := HD2.out.addb HB3.out m3 g3 o3
                           have E1 := Lib.hid x3
                           have E4 := Lib.hid (BU3.out.trans x4)
                           clear m3 g3 o3 x3 x4 x5)
              go_upto_region 18 with fail
              clear x1 x2 k4 HD2 MR HLB HB3 BV2 BU3 hWV wu8
              obtain ⟨V3, hV3⟩ : ∃ X, (U4.setCell ⟨g1, 4, none⟩ (.slice A3 (d.bytes.length + 1) c3)) = X := ⟨_, rfl⟩
              rw [hV3] at E1 E4 ⊢
              clear hV3
              have HD3 := Lib.hid E1.out
              have BU4 := Lib.hid E4.out
              clear E1 E4
              have BV3 := Lib.hid (show Below w.heap.size w V3 from BW.out.trans (BU4.out.mono BW.out.size))
              obtain ⟨T, hT⟩ : ∃ T, (nnR (rs.getD la dR), growF rs n f la) = T := ⟨_, rfl⟩
              have HC := Lib.hid (show Calls Tryz.prog 30 #[.slice (some ad) n c, .int .i64 li] V3.drew (RBPost B V3.drew T) from by
                have hlb := HLB2.out
                rw [← hT, ← HLI.out]
                exact ih la n c B (some ad) rs V3.drew (HA.out V3.drew BV3.out.drew) (Nat.le_trans hB BV3.out.drew.size) hlb.2 (by omega) hn HPL.out)
              have HM2 := Lib.hid (show d.app (.cons (UInt8.ofNat b) T.1 T.2 .nil) = mkG rs (growF rs n f) (esUp rs k n (b + 1)) by
                rw [HEU.out, if_neg HL0.out, mkG_app, ← HM.out, ← hT]
                rfl)
              have KB := Lib.hid (fun X (h : Below V3.heap.size V3 X) => show X.cell? ⟨g1, 5, none⟩ = some (.slice Ak css.length ck) from (HD3.out.below h).blk.cell 5)
              have MR := Lib.hid (fun X (h : Below V3.heap.size V3 X) => (HD3.out.below h).kids)
              have hWV : W0.heap.size ≤ V3.heap.size := BU4.out.size
              clear hT
              refine wp_region_held_drew (S := (fun _ => True)) (by kernel_rfl) True.intro (fun hHeld => ?_)
              refine wpAnyH_take (i := 0) (oi := { dst := some 78, op := Op.fieldAddr 45 (Operand.tmp 5) 5, type := 0, pos := "ref.go:259", after := #[], guard := none }) (v := ?v40) rfl (by kernel_rfl) (by kernel_rfl) (by kernel_rfl) (fun _ _ _ h => h) (Or.inl ⟨by rfl, ?hy40⟩) hHeld ?rest40
              case hy40 => (intro w' hSw; (try dsimp only at hSw); go_simp; (try with_reducible rfl))
              try simp only [Act.put, List.setIfInBounds_toArray, List.set_cons_zero, List.set_cons_succ]
              refine wpAnyH_take (i := 2) (oi := { dst := some 80, op := Op.move (Operand.tmp 0), type := 66, pos := "ref.go:259", after := #[], guard := none }) (v := ?v41) rfl (by kernel_rfl) (by kernel_rfl) (by kernel_rfl) (fun _ _ _ h => h) (Or.inl ⟨by rfl, ?hy41⟩) hHeld ?rest41
              case hy41 => (intro w' hSw; (try dsimp only at hSw); go_simp; (try with_reducible rfl))
              try simp only [Act.put, List.setIfInBounds_toArray, List.set_cons_zero, List.set_cons_succ]
              refine wpAnyH_take (i := 3) (oi := { dst := some 81, op := Op.move (Operand.tmp 7), type := 3, pos := "ref.go:259", after := #[], guard := none }) (v := ?v42) rfl (by kernel_rfl) (by kernel_rfl) (by kernel_rfl) (fun _ _ _ h => h) (Or.inl ⟨by rfl, ?hy42⟩) hHeld ?rest42
              case hy42 => (intro w' hSw; (try dsimp only at hSw); go_simp; (try with_reducible rfl))
              try simp only [Act.put, List.setIfInBounds_toArray, List.set_cons_zero, List.set_cons_succ]
              refine wpAnyH_ready (rs := [1, 4]) (by kernel_rfl) (by simp) (AllReadyH.cons (o := { dst := some 79, op := Op.load 43 (Operand.tmp 78), type := 43, pos := "ref.go:259", after := #[{ on := 0, ground := Ground.data }], guard := none }) rfl (fun K hK => ?_) (AllReadyH.cons (o := { dst := some 82, op := Op.call { callee := Callee.value (Operand.func 30), args := #[Operand.tmp 80, Operand.tmp 81], argTypes := #[66, 3] }, type := 45, pos := "ref.go:259", after := #[{ on := 2, ground := Ground.data }, { on := 3, ground := Ground.data }], guard := none }) rfl (fun K hK => ?_) AllReadyH.nil))
              · have cz := KB.out _ (Below.refl V3.heap.size V3).drew
                go_simp
                refine hK.out _ _ True.intro (fun hHeld' => ?_)
                clear hK K hHeld
                have hHeld := hHeld'
                clear hHeld'
                try simp only [Act.put, List.setIfInBounds_toArray, List.set_cons_zero, List.set_cons_succ]
                refine wpAnyH_ready (rs := [4]) (by kernel_rfl) (by simp) (AllReadyH.cons (o := { dst := some 82, op := Op.call { callee := Callee.value (Operand.func 30), args := #[Operand.tmp 80, Operand.tmp 81], argTypes := #[66, 3] }, type := 45, pos := "ref.go:259", after := #[{ on := 2, ground := Ground.data }, { on := 3, ground := Ground.data }], guard := none }) rfl (fun K hK => ?_) AllReadyH.nil)
                go_simp
                (with_reducible refine HC.out.mono ?_)
                rintro e U5 ⟨cs, rfl, y0, b5⟩
                obtain ⟨dv, ek, rfl, y1, y2⟩ := y0
                have X5 := Lib.hid (show DnoS U5 (fun i => i < B ∨ (V3.heap.size ≤ i ∧ i < U5.heap.size)) T.1 T.2 (dv.cells T.1 T.2) from ⟨dv, ek, rfl, y1, y2⟩)
                have B5 := Lib.hid (show Below V3.heap.size V3 U5 from (Below.refl V3.heap.size V3).drew.trans b5)
                clear y1 y2 b5
                rw [show (dv.cells T.1 T.2).toArray = (dArr (kdV T.1 T.2) dv T.1.has T.1.val) from rfl]
                go_wp2_with fail
                refine hK.out _ _ True.intro (fun hHeld' => ?_)
                clear hK K hHeld
                have hHeld := hHeld'
                clear hHeld'
                try simp only [Act.put, List.setIfInBounds_toArray, List.set_cons_zero, List.set_cons_succ]
                refine wpAnyH_ready (rs := [5]) (by kernel_rfl) (by simp) (AllReadyH.cons (o := { dst := some 83, op := Op.buildSlice 43 1 #[(0, Operand.tmp 82)], type := 43, pos := "ref.go:259", after := #[{ on := 4, ground := Ground.data }], guard := none }) rfl (fun K hK => ?_) AllReadyH.nil)
                go_simp
                obtain ⟨U6, hU6⟩ : ∃ W, U5.alloc (.cells (dArr (kdV T.1 T.2) dv T.1.has T.1.val) 45) = W := ⟨_, rfl⟩
                have B56 := Lib.hid (show Below U5.heap.size U5 U6 by rw [← hU6]; exact (Below.refl U5.heap.size U5).alloc (Nat.le_refl _) _)
                have B6 := Lib.hid (show Below V3.heap.size V3 U6 from B5.out.trans (B56.out.mono B5.out.size))
                have LB := Lib.hid (show Blk U6 U5.heap.size (dArr (kdV T.1 T.2) dv T.1.has T.1.val) by rw [← hU6]; exact Blk.new _ _ _)
                rw [hU6]
                clear hU6
                refine hK.out _ _ True.intro (fun hHeld' => ?_)
                clear hK K hHeld
                have hHeld := hHeld'
                clear hHeld'
                try simp only [Act.put, List.setIfInBounds_toArray, List.set_cons_zero, List.set_cons_succ]
                refine wpAnyH_ready (rs := [6]) (by kernel_rfl) (by simp) (AllReadyH.cons (o := { dst := some 84, op := Op.call { callee := Callee.builtin Builtin.append, args := #[Operand.tmp 79, Operand.tmp 83], argTypes := #[43, 43] }, type := 43, pos := "ref.go:259", after := #[{ on := 1, ground := Ground.data }, { on := 5, ground := Ground.data }, { on := 4, ground := Ground.chain }], guard := none }) rfl (fun K hK => ?_) AllReadyH.nil)
                rw [if_pos (by rfl)]
                refine wp_append_rws _ (.tmp 79) (.tmp 83) _ rfl Tryz.underlying43 info_node (by rfl) (by decide) W0.heap.size (.slice Ak css.length ck) css.length css (by rfl) (MR.out _ B6.out) ⟨U5.heap.size, 0, none⟩ 1 (dv.cells T.1 T.2) (by rfl) (by rfl) (lit_cells (cs := dv.cells T.1 T.2) LB.out) (by intro u hu; simp [Dv.cells] at hu; rcases hu with rfl | rfl | rfl | rfl | rfl | rfl <;> rfl) (by omega) (by unfold maxLen; omega) (by have := B6.out.size; omega) ?_
                intro v3 U7 m3 g3 o3
                obtain ⟨A4, c4, rfl, _⟩ := m3.slice
                obtain ⟨x1, x2, x3, x4, x5⟩ := HD3.out.addk B5.out X5.out B56.out (UInt8.ofNat b) m3 g3 o3
                have E1 := Lib.hid x3
                have E4 := Lib.hid (BU4.out.trans x4)
                clear m3 g3 o3 x3 x4 x5
                refine hK.out _ _ True.intro (fun hHeld' => ?_)
                clear hK K hHeld
                have hHeld := hHeld'
                clear hHeld'
                try simp only [Act.put, List.setIfInBounds_toArray, List.set_cons_zero, List.set_cons_succ]
                refine wpAnyH_take (i := 7) (oi := { dst := some 85, op := Op.fieldAddr 45 (Operand.tmp 5) 5, type := 0, pos := "ref.go:259", after := #[{ on := 0, ground := Ground.phase }, { on := 1, ground := Ground.phase }, { on := 2, ground := Ground.phase }, { on := 3, ground := Ground.phase }, { on := 4, ground := Ground.phase }, { on := 5, ground := Ground.phase }, { on := 6, ground := Ground.phase }], guard := none }) (v := ?v43) rfl (by kernel_rfl) (by kernel_rfl) (by kernel_rfl) (fun _ _ _ h => h) (Or.inl ⟨by rfl, ?hy43⟩) hHeld ?rest43
                case hy43 => (intro w' hSw; (try dsimp only at hSw); go_simp; (try with_reducible rfl))
                try simp only [Act.put, List.setIfInBounds_toArray, List.set_cons_zero, List.set_cons_succ]
                refine wpAnyH_ready (rs := [8]) (by kernel_rfl) (by simp) (AllReadyH.cons (o := { dst := none, op := Op.store 43 (Operand.tmp 85) (Operand.tmp 84), type := 0, pos := "ref.go:259", after := #[{ on := 7, ground := Ground.data }, { on := 6, ground := Ground.data }, { on := 6, ground := Ground.chain }, { on := 0, ground := Ground.phase }, { on := 1, ground := Ground.phase }, { on := 2, ground := Ground.phase }, { on := 3, ground := Ground.phase }, { on := 4, ground := Ground.phase }, { on := 5, ground := Ground.phase }, { on := 6, ground := Ground.phase }], guard := none }) rfl (fun K hK => ?_) AllReadyH.nil)
                go_simp
                refine hK.out _ _ True.intro (fun hHeld' => ?_)
                clear hK K hHeld
                have hHeld := hHeld'
                clear hHeld'
                try simp only [Act.put, List.setIfInBounds_toArray, List.set_cons_zero, List.set_cons_succ]
                refine wpAnyH_done (by kernel_rfl) ?_ _
                have HD5 := Lib.hid (DB.as E1.out (by rw [bytes_app]; rfl))
                go_wp2
                exact ⟨⟨b + 1, _, _, _, _, by omega, by go_num, HD5, HM2, E4⟩, by simp [intOf]; omega⟩
              · go_simp
                (with_reducible refine HC.out.mono ?_)
                rintro e U5 ⟨cs, rfl, y0, b5⟩
                obtain ⟨dv, ek, rfl, y1, y2⟩ := y0
                have X5 := Lib.hid (show DnoS U5 (fun i => i < B ∨ (V3.heap.size ≤ i ∧ i < U5.heap.size)) T.1 T.2 (dv.cells T.1 T.2) from ⟨dv, ek, rfl, y1, y2⟩)
                have B5 := Lib.hid (show Below V3.heap.size V3 U5 from (Below.refl V3.heap.size V3).drew.trans b5)
                clear y1 y2 b5
                rw [show (dv.cells T.1 T.2).toArray = (dArr (kdV T.1 T.2) dv T.1.has T.1.val) from rfl]
                go_wp2_with fail
                refine hK.out _ _ True.intro (fun hHeld' => ?_)
                clear hK K hHeld
                have hHeld := hHeld'
                clear hHeld'
                try simp only [Act.put, List.setIfInBounds_toArray, List.set_cons_zero, List.set_cons_succ]
                refine wpAnyH_ready (rs := [1, 5]) (by kernel_rfl) (by simp) (AllReadyH.cons (o := { dst := some 79, op := Op.load 43 (Operand.tmp 78), type := 43, pos := "ref.go:259", after := #[{ on := 0, ground := Ground.data }], guard := none }) rfl (fun K hK => ?_) (AllReadyH.cons (o := { dst := some 83, op := Op.buildSlice 43 1 #[(0, Operand.tmp 82)], type := 43, pos := "ref.go:259", after := #[{ on := 4, ground := Ground.data }], guard := none }) rfl (fun K hK => ?_) AllReadyH.nil))
                · have cz := KB.out _ B5.out
                  go_simp
                  refine hK.out _ _ True.intro (fun hHeld' => ?_)
                  clear hK K hHeld
                  have hHeld := hHeld'
                  clear hHeld'
                  try simp only [Act.put, List.setIfInBounds_toArray, List.set_cons_zero, List.set_cons_succ]
                  refine wpAnyH_ready (rs := [5]) (by kernel_rfl) (by simp) (AllReadyH.cons (o := { dst := some 83, op := Op.buildSlice 43 1 #[(0, Operand.tmp 82)], type := 43, pos := "ref.go:259", after := #[{ on := 4, ground := Ground.data }], guard := none }) rfl (fun K hK => ?_) AllReadyH.nil)
                  go_simp
                  obtain ⟨U6, hU6⟩ : ∃ W, U5.alloc (.cells (dArr (kdV T.1 T.2) dv T.1.has T.1.val) 45) = W := ⟨_, rfl⟩
                  have B56 := Lib.hid (show Below U5.heap.size U5 U6 by rw [← hU6]; exact (Below.refl U5.heap.size U5).alloc (Nat.le_refl _) _)
                  have B6 := Lib.hid (show Below V3.heap.size V3 U6 from B5.out.trans (B56.out.mono B5.out.size))
                  have LB := Lib.hid (show Blk U6 U5.heap.size (dArr (kdV T.1 T.2) dv T.1.has T.1.val) by rw [← hU6]; exact Blk.new _ _ _)
                  rw [hU6]
                  clear hU6
                  refine hK.out _ _ True.intro (fun hHeld' => ?_)
                  clear hK K hHeld
                  have hHeld := hHeld'
                  clear hHeld'
                  try simp only [Act.put, List.setIfInBounds_toArray, List.set_cons_zero, List.set_cons_succ]
                  refine wpAnyH_ready (rs := [6]) (by kernel_rfl) (by simp) (AllReadyH.cons (o := { dst := some 84, op := Op.call { callee := Callee.builtin Builtin.append, args := #[Operand.tmp 79, Operand.tmp 83], argTypes := #[43, 43] }, type := 43, pos := "ref.go:259", after := #[{ on := 1, ground := Ground.data }, { on := 5, ground := Ground.data }, { on := 4, ground := Ground.chain }], guard := none }) rfl (fun K hK => ?_) AllReadyH.nil)
                  rw [if_pos (by rfl)]
                  refine wp_append_rws _ (.tmp 79) (.tmp 83) _ rfl Tryz.underlying43 info_node (by rfl) (by decide) W0.heap.size (.slice Ak css.length ck) css.length css (by rfl) (MR.out _ B6.out) ⟨U5.heap.size, 0, none⟩ 1 (dv.cells T.1 T.2) (by rfl) (by rfl) (lit_cells (cs := dv.cells T.1 T.2) LB.out) (by intro u hu; simp [Dv.cells] at hu; rcases hu with rfl | rfl | rfl | rfl | rfl | rfl <;> rfl) (by omega) (by unfold maxLen; omega) (by have := B6.out.size; omega) ?_
                  intro v3 U7 m3 g3 o3
                  obtain ⟨A4, c4, rfl, _⟩ := m3.slice
                  obtain ⟨x1, x2, x3, x4, x5⟩ := HD3.out.addk B5.out X5.out B56.out (UInt8.ofNat b) m3 g3 o3
                  have E1 := Lib.hid x3
                  have E4 := Lib.hid (BU4.out.trans x4)
                  clear m3 g3 o3 x3 x4 x5
                  refine hK.out _ _ True.intro (fun hHeld' => ?_)
                  clear hK K hHeld
                  have hHeld := hHeld'
                  clear hHeld'
                  try simp only [Act.put, List.setIfInBounds_toArray, List.set_cons_zero, List.set_cons_succ]
                  refine wpAnyH_take (i := 7) (oi := { dst := some 85, op := Op.fieldAddr 45 (Operand.tmp 5) 5, type := 0, pos := "ref.go:259", after := #[{ on := 0, ground := Ground.phase }, { on := 1, ground := Ground.phase }, { on := 2, ground := Ground.phase }, { on := 3, ground := Ground.phase }, { on := 4, ground := Ground.phase }, { on := 5, ground := Ground.phase }, { on := 6, ground := Ground.phase }], guard := none }) (v := ?v44) rfl (by kernel_rfl) (by kernel_rfl) (by kernel_rfl) (fun _ _ _ h => h) (Or.inl ⟨by rfl, ?hy44⟩) hHeld ?rest44
                  case hy44 => (intro w' hSw; (try dsimp only at hSw); go_simp; (try with_reducible rfl))
                  try simp only [Act.put, List.setIfInBounds_toArray, List.set_cons_zero, List.set_cons_succ]
                  refine wpAnyH_ready (rs := [8]) (by kernel_rfl) (by simp) (AllReadyH.cons (o := { dst := none, op := Op.store 43 (Operand.tmp 85) (Operand.tmp 84), type := 0, pos := "ref.go:259", after := #[{ on := 7, ground := Ground.data }, { on := 6, ground := Ground.data }, { on := 6, ground := Ground.chain }, { on := 0, ground := Ground.phase }, { on := 1, ground := Ground.phase }, { on := 2, ground := Ground.phase }, { on := 3, ground := Ground.phase }, { on := 4, ground := Ground.phase }, { on := 5, ground := Ground.phase }, { on := 6, ground := Ground.phase }], guard := none }) rfl (fun K hK => ?_) AllReadyH.nil)
                  go_simp
                  refine hK.out _ _ True.intro (fun hHeld' => ?_)
                  clear hK K hHeld
                  have hHeld := hHeld'
                  clear hHeld'
                  try simp only [Act.put, List.setIfInBounds_toArray, List.set_cons_zero, List.set_cons_succ]
                  refine wpAnyH_done (by kernel_rfl) ?_ _
                  have HD5 := Lib.hid (DB.as E1.out (by rw [bytes_app]; rfl))
                  go_wp2
                  exact ⟨⟨b + 1, _, _, _, _, by omega, by go_num, HD5, HM2, E4⟩, by simp [intOf]; omega⟩
                · go_simp
                  obtain ⟨U6, hU6⟩ : ∃ W, U5.alloc (.cells (dArr (kdV T.1 T.2) dv T.1.has T.1.val) 45) = W := ⟨_, rfl⟩
                  have B56 := Lib.hid (show Below U5.heap.size U5 U6 by rw [← hU6]; exact (Below.refl U5.heap.size U5).alloc (Nat.le_refl _) _)
                  have B6 := Lib.hid (show Below V3.heap.size V3 U6 from B5.out.trans (B56.out.mono B5.out.size))
                  have LB := Lib.hid (show Blk U6 U5.heap.size (dArr (kdV T.1 T.2) dv T.1.has T.1.val) by rw [← hU6]; exact Blk.new _ _ _)
                  rw [hU6]
                  clear hU6
                  refine hK.out _ _ True.intro (fun hHeld' => ?_)
                  clear hK K hHeld
                  have hHeld := hHeld'
                  clear hHeld'
                  try simp only [Act.put, List.setIfInBounds_toArray, List.set_cons_zero, List.set_cons_succ]
                  refine wpAnyH_ready (rs := [1]) (by kernel_rfl) (by simp) (AllReadyH.cons (o := { dst := some 79, op := Op.load 43 (Operand.tmp 78), type := 43, pos := "ref.go:259", after := #[{ on := 0, ground := Ground.data }], guard := none }) rfl (fun K hK => ?_) AllReadyH.nil)
                  have cz := KB.out _ B6.out
                  go_simp
                  refine hK.out _ _ True.intro (fun hHeld' => ?_)
                  clear hK K hHeld
                  have hHeld := hHeld'
                  clear hHeld'
                  try simp only [Act.put, List.setIfInBounds_toArray, List.set_cons_zero, List.set_cons_succ]
                  refine wpAnyH_ready (rs := [6]) (by kernel_rfl) (by simp) (AllReadyH.cons (o := { dst := some 84, op := Op.call { callee := Callee.builtin Builtin.append, args := #[Operand.tmp 79, Operand.tmp 83], argTypes := #[43, 43] }, type := 43, pos := "ref.go:259", after := #[{ on := 1, ground := Ground.data }, { on := 5, ground := Ground.data }, { on := 4, ground := Ground.chain }], guard := none }) rfl (fun K hK => ?_) AllReadyH.nil)
                  rw [if_pos (by rfl)]
                  refine wp_append_rws _ (.tmp 79) (.tmp 83) _ rfl Tryz.underlying43 info_node (by rfl) (by decide) W0.heap.size (.slice Ak css.length ck) css.length css (by rfl) (MR.out _ B6.out) ⟨U5.heap.size, 0, none⟩ 1 (dv.cells T.1 T.2) (by rfl) (by rfl) (lit_cells (cs := dv.cells T.1 T.2) LB.out) (by intro u hu; simp [Dv.cells] at hu; rcases hu with rfl | rfl | rfl | rfl | rfl | rfl <;> rfl) (by omega) (by unfold maxLen; omega) (by have := B6.out.size; omega) ?_
                  intro v3 U7 m3 g3 o3
                  obtain ⟨A4, c4, rfl, _⟩ := m3.slice
                  obtain ⟨x1, x2, x3, x4, x5⟩ := HD3.out.addk B5.out X5.out B56.out (UInt8.ofNat b) m3 g3 o3
                  have E1 := Lib.hid x3
                  have E4 := Lib.hid (BU4.out.trans x4)
                  clear m3 g3 o3 x3 x4 x5
                  refine hK.out _ _ True.intro (fun hHeld' => ?_)
                  clear hK K hHeld
                  have hHeld := hHeld'
                  clear hHeld'
                  try simp only [Act.put, List.setIfInBounds_toArray, List.set_cons_zero, List.set_cons_succ]
                  refine wpAnyH_take (i := 7) (oi := { dst := some 85, op := Op.fieldAddr 45 (Operand.tmp 5) 5, type := 0, pos := "ref.go:259", after := #[{ on := 0, ground := Ground.phase }, { on := 1, ground := Ground.phase }, { on := 2, ground := Ground.phase }, { on := 3, ground := Ground.phase }, { on := 4, ground := Ground.phase }, { on := 5, ground := Ground.phase }, { on := 6, ground := Ground.phase }], guard := none }) (v := ?v45) rfl (by kernel_rfl) (by kernel_rfl) (by kernel_rfl) (fun _ _ _ h => h) (Or.inl ⟨by rfl, ?hy45⟩) hHeld ?rest45
                  case hy45 => (intro w' hSw; (try dsimp only at hSw); go_simp; (try with_reducible rfl))
                  try simp only [Act.put, List.setIfInBounds_toArray, List.set_cons_zero, List.set_cons_succ]
                  refine wpAnyH_ready (rs := [8]) (by kernel_rfl) (by simp) (AllReadyH.cons (o := { dst := none, op := Op.store 43 (Operand.tmp 85) (Operand.tmp 84), type := 0, pos := "ref.go:259", after := #[{ on := 7, ground := Ground.data }, { on := 6, ground := Ground.data }, { on := 6, ground := Ground.chain }, { on := 0, ground := Ground.phase }, { on := 1, ground := Ground.phase }, { on := 2, ground := Ground.phase }, { on := 3, ground := Ground.phase }, { on := 4, ground := Ground.phase }, { on := 5, ground := Ground.phase }, { on := 6, ground := Ground.phase }], guard := none }) rfl (fun K hK => ?_) AllReadyH.nil)
                  go_simp
                  refine hK.out _ _ True.intro (fun hHeld' => ?_)
                  clear hK K hHeld
                  have hHeld := hHeld'
                  clear hHeld'
                  try simp only [Act.put, List.setIfInBounds_toArray, List.set_cons_zero, List.set_cons_succ]
                  refine wpAnyH_done (by kernel_rfl) ?_ _
                  have HD5 := Lib.hid (DB.as E1.out (by rw [bytes_app]; rfl))
                  go_wp2
                  exact ⟨⟨b + 1, _, _, _, _, by omega, by go_num, HD5, HM2, E4⟩, by simp [intOf]; omega⟩
        · obtain rfl : b = 256 := by omega
          have hTT : (nnR (rs.getD k dR), growF rs n (f + 1) k) = (⟨false, 1, r.part, 0, false⟩, d) := by rw [HX.out, HM.out]
          have hd256 : d.len ≤ 256 := by rw [HM.out, mkG_len]; exact esUp_len rs k n 256
          obtain ⟨Ab, cb, e, _⟩ := HD.out.byt.slice
          subst e
          obtain ⟨Ak, ck, e, _⟩ := HD.out.kids.slice
          subst e
          have hcl : css.length = d.len := HD.out.dis.len
          have hkd := (kd_inner (x := ⟨false, 1, r.part, 0, false⟩) d rfl).1
          have CZ := Lib.hid (show Calls Tryz.prog 61 #[.int .i64 (css.length : Int)] wr fun e w' => e = .returned (.int .i64 (kindN d.len : Int)) ∧ w' = wr from by rw [hcl, ← kindZ_nat hd256]; exact rkindof_any wr _)
          have kk : Kept (· = g1) wr (wr.setCell ⟨g1, 0, none⟩ (.int .i64 (kindN d.len : Int))) := Kept.set_ _ _ _ rfl
          have hb0 : Blk (wr.setCell ⟨g1, 0, none⟩ (.int .i64 (kindN d.len : Int))) g1 #[.int .i64 (kindN d.len : Int), .slice r.A r.n r.c, .bool false, .int .u64 0, .slice Ab d.bytes.length cb, .slice Ak css.length ck] := by simpa using HD.out.blk.set_ 0 (.int .i64 (kindN d.len : Int))
          have hD5 := HD.out.turn kk hb0
          have hBU : Below W0.heap.size W0 (wr.setCell ⟨g1, 0, none⟩ (.int .i64 (kindN d.len : Int))) := HBr.out.trans (kk.below HBr.out.size (fun i e => by have := HG1.out; omega))
          have hBWU := BW.out.trans (hBU.mono BW.out.size)
          have hdn := (show DB B W0.heap.size (wr.setCell ⟨g1, 0, none⟩ (.int .i64 (kindN d.len : Int))) g1 (.int .i64 (kdV ⟨false, 1, r.part, 0, false⟩ d)) (.slice r.A r.n r.c) (.bool false) (.int .u64 0) (.slice Ab d.bytes.length cb) (.slice Ak css.length ck) d.bytes css d by rw [hkd]; exact hD5).done (x := ⟨false, 1, r.part, 0, false⟩) (HBP.out _ hBWU) HPB.out HRC.out (lo := W0.heap.size) (Nat.le_refl _)
          rw [hkd] at hdn
          have hzz : Lst (wr.setCell ⟨g1, 0, none⟩ (.int .i64 (kindN d.len : Int))) w.heap.size [.int .i64 0, .slice none 0 0, .bool false, .int .u64 0, .slice none 0 0, .slice none 0 0] := Blk.below ZW.out hBU (by have := SW.out; omega)
          obtain ⟨h1', h2', h3'⟩ := hand_over hdn hzz rfl hB (by have := SW.out; omega) hBWU
          have HN6 := Lib.hid (node_six hdn).2
          have HTH := Lib.hid (Lst.there hzz (o := 0) (n := 6) (Nat.le_refl _))
          have H1 := Lib.hid h1'
          have H2 := Lib.hid h2'
          have H3 := Lib.hid h3'
          have HTE := Lib.hid hTT
          have k0 := HD.out.blk.cell 0
          have k1 := HD.out.blk.cell 1
          have k2 := HD.out.blk.cell 2
          have k3 := HD.out.blk.cell 3
          have k4 := HD.out.blk.cell 4
          have k5 := HD.out.blk.cell 5
          have z0 := HD.out.blk.fz 0
          clear hd256 h1 hb hcl hTT hkd kk hb0 hD5 hBU hBWU hdn hzz h1' h2' h3' hBw HBw
          generalize (kindN d.len : Int) = kz at CZ HN6 HTH H1 H2 H3
          go_wp2_with fail
          (with_reducible refine CZ.out.mono ?_)
          rintro e w2 ⟨rfl, rfl⟩
          go_wp2_with (refine wpList_store_mid rfl 45 (.tmp 4) (.tmp 91) rfl w.heap.size 0 ([.int .i64 kz, .slice r.A r.n r.c, .bool false, .int .u64 0, .slice Ab d.bytes.length cb, .slice Ak css.length ck] : List Value).toArray (by rfl) (by rfl) HTH.out size_node HN6.out ?_)
          (try simp only [Exit.inBlock, Exit.then])
          refine bodyPost_ret (node_ret Tryz.f30 rfl _ H1.out rfl (by rfl)) (by rfl) ?_
          exact ⟨_, rfl, by rw [HTE.out]; exact H2.out, H3.out⟩

theorem rgrows : ∀ f, GrOk f
  | 0 => fun k n c B A rs w _ _ hk hf _ _ => by omega
  | f + 1 => rgrow_step (rgrows f)
end Go.Proofs.YtcfokkojoppmkaaGreatDoor
