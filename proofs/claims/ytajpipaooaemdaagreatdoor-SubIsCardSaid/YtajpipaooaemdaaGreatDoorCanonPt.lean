/-
  The points of a canonical tree are the longest beginnings that two of its keys share, each once; how many bytes keys go on with there, and whether one ends there. No program is run.
  The canonical tree of pairs is well formed. No program is run.
-/
import Derived.Test.YtajpipaooaemdaaGreatDoorShapeP
import Derived.Test.YtajpipaooaemdaaGreatDoorCanRead
namespace Go.Proofs.YtajpipaooaemdaaGreatDoor

/-- The inner nodes of a forest: the bytes on the way with the part, the node, its kids. -/
def Fo.pts : Fo → List UInt8 → List (List UInt8 × Nn × Fo)
  | .nil, _ => []
  | .cons b x k r, w => ((if x.leaf then [] else [((w ++ [b]) ++ x.part, x, k)]) ++ k.pts ((w ++ [b]) ++ x.part)) ++ r.pts w
def ptsT (x : Nn) (k : Fo) (w : List UInt8) : List (List UInt8 × Nn × Fo) := (if x.leaf then [] else [(w ++ x.part, x, k)]) ++ k.pts (w ++ x.part)
def ptC (e : List UInt8 × Nn × Fo) : List UInt8 × List Value := (e.1, [.int .i64 (kindN e.2.2.len), .bool e.2.1.has])
/-- Some key of these pairs. -/
def KeyIn (L : List KV) (s : List UInt8) : Prop := ∃ p ∈ L, p.1 = s
theorem KeyIn.app {L M : List KV} {s : List UInt8} : KeyIn (L ++ M) s ↔ KeyIn L s ∨ KeyIn M s := by
  unfold KeyIn
  constructor
  · rintro ⟨p, hp, e⟩
    rcases List.mem_append.1 hp with q | q
    · exact .inl ⟨p, q, e⟩
    · exact .inr ⟨p, q, e⟩
  · rintro (⟨p, hp, e⟩ | ⟨p, hp, e⟩)
    · exact ⟨p, List.mem_append.2 (.inl hp), e⟩
    · exact ⟨p, List.mem_append.2 (.inr hp), e⟩
/-- The keys of a node, from itself on. -/
def ownK (x : Nn) (k : Fo) : List KV := (if x.has then [([], x.val)] else []) ++ k.list []
section
variable {o : Int}
/-- An entry's own node and kids are well made. -/
def PtOk (o : Int) (e : List UInt8 × Nn × Fo) : Prop := e.2.1.leaf = false ∧ okN e.2.1 e.2.2 ∧ e.2.2.wf o ∧ e.2.2.good
abbrev RiseE (l : List (List UInt8 × Nn × Fo)) : Prop := l.Pairwise fun a b => cmpL a.1 b.1 < 0
/-- By which bytes a node's keys go on. -/
def Fo.bytes : Fo → List UInt8
  | .nil => []
  | .cons b _ _ r => b :: r.bytes
theorem Fo.bytes_len : ∀ f : Fo, f.bytes.length = f.len
  | .nil => rfl
  | .cons _ _ _ r => by rw [Fo.bytes, List.length_cons, Fo.bytes_len r]; rfl
theorem Fo.bytes_above : ∀ {f : Fo}, f.wf o → ∀ c ∈ f.bytes, ∀ b : UInt8, f.above b → b.toNat < c.toNat
  | .nil, _, c, hc, _, _ => by cases hc
  | .cons b' x k r, ⟨h1, _, _, h4⟩, c, hc, b, hb => by
    rcases List.mem_cons.1 hc with e | q
    · rw [e]; exact hb
    · exact Nat.lt_trans hb (Fo.bytes_above h4 c q b' h1)
theorem Fo.bytes_rise : ∀ {f : Fo}, f.wf o → f.bytes.Pairwise fun a b => a.toNat < b.toNat
  | .nil, _ => List.Pairwise.nil
  | .cons b' _ _ _, ⟨h1, _, _, h4⟩ => List.pairwise_cons.2 ⟨fun c hc => Fo.bytes_above h4 c hc b' h1, Fo.bytes_rise h4⟩
end
/-- By how many bytes keys go on behind some bytes. -/
def fanN (L : List KV) (way : List UInt8) : Nat := (List.range 256).countP fun n => L.any fun p => decide (p.1.take way.length = way ∧ p.1[way.length]? = some (UInt8.ofNat n))
def hasN (L : List KV) (way : List UInt8) : Bool := L.any fun p => decide (p.1 = way)
theorem count_range {bs : List UInt8} (h : bs.Pairwise fun a b => a.toNat < b.toNat) {P : Nat → Bool} (hP : ∀ n, n < 256 → (P n = true ↔ UInt8.ofNat n ∈ bs)) : (List.range 256).countP P = bs.length := by
  rw [List.countP_eq_length_filter, show bs.length = (bs.map UInt8.toNat).length by simp]
  refine List.Perm.length_eq ((List.perm_ext_iff_of_nodup (List.Nodup.sublist List.filter_sublist List.nodup_range) ?_).2 fun n => ?_)
  · refine List.Pairwise.map _ (fun a b hab => Nat.ne_of_lt hab) h
  · rw [List.mem_filter, List.mem_range, List.mem_map]
    constructor
    · rintro ⟨hn, hp⟩
      exact ⟨_, (hP n hn).1 hp, by rw [UInt8.toNat_ofNat']; omega⟩
    · rintro ⟨b, hb, rfl⟩
      have := b.toNat_lt
      exact ⟨this, (hP _ this).2 (by rw [UInt8.ofNat_toNat]; exact hb)⟩
section
variable {o : Int}
end
end Go.Proofs.YtajpipaooaemdaaGreatDoor

namespace Go.Proofs.YtajpipaooaemdaaGreatDoor

theorem mkF_above {c : List KV → Nn × Fo} {b : UInt8} : ∀ {gs : List (UInt8 × List KV)}, (∀ x ∈ gs, b.toNat < x.1.toNat) → (mkF c gs).above b
  | [], _ => trivial
  | (_, _) :: _, h => h _ (List.mem_cons_self ..)
theorem mkF_wf {o : Int} {c : List KV → Nn × Fo} : ∀ {gs : List (UInt8 × List KV)}, (gs.Pairwise fun a b => a.1.toNat < b.1.toNat) → (∀ x ∈ gs, wfN o (c x.2).1 (c x.2).2 ∧ (c x.2).2.wf o) → (mkF c gs).wf o
  | [], _, _ => trivial
  | (_, _) :: _, hp, h => ⟨mkF_above (List.pairwise_cons.1 hp).1, (h _ (List.mem_cons_self ..)).1, (h _ (List.mem_cons_self ..)).2, mkF_wf (List.pairwise_cons.1 hp).2 fun x hx => h x (List.mem_cons_of_mem _ hx)⟩
theorem cT_wf (o : Int) : ∀ (f : Nat) (L : List KV), L ≠ [] → Rise L → (∀ p ∈ L, p.1.length < f) → wfN o (cT o f L).1 (cT o f L).2 ∧ (cT o f L).2.wf o
  | 0, L, h, _, hf => by
    rcases L with _ | ⟨p, L⟩
    · exact absurd rfl h
    · have := hf p (List.mem_cons_self ..); omega
  | f + 1, [], h, _, _ => absurd rfl h
  | f + 1, [p], _, _, _ => by simp [cT, wfN, Fo.wf]
  | f + 1, p :: q :: r, _, hr, hf => by
    have hends := rise_ends hr
    obtain ⟨z, hz⟩ : ∃ z, (q :: r).getLast (by simp) = z := ⟨_, rfl⟩
    rw [hz] at hends
    obtain ⟨e, he⟩ : ∃ e, lcp p.1 z.1 = e := ⟨_, rfl⟩
    rw [he] at hends
    have hep : e ≤ p.1.length := by rw [← he]; exact lcp_le_left _ _
    have part : ∀ rest : List KV, (∀ u ∈ rest, e ≤ lcp p.1 u.1 ∧ e < u.1.length ∧ u.1.length < f + 1) → Rise rest → (mkF (cT o f) (grp (cut e rest))).wf o := by
      intro rest h1 h2
      have hcr : Rise (cut e rest) := cut_rise p.1 h2 (fun u hu => (h1 u hu).1)
      obtain ⟨s1, s2, s3⟩ := grp_spec (cut e rest) (fun u hu => by
        unfold cut at hu
        obtain ⟨v, hv, rfl⟩ := List.mem_map.1 hu
        have := (h1 v hv).2.1
        intro q
        have := congrArg List.length q
        simp at this
        omega) hcr
      have hin : ∀ x ∈ grp (cut e rest), ∀ u ∈ x.2, u.1.length < f := fun x hx u hu => by
        have : (x.1 :: u.1, u.2) ∈ ungrp (grp (cut e rest)) := mem_ungrp hx hu
        rw [s1] at this
        unfold cut at this
        obtain ⟨v, hv, e2⟩ := List.mem_map.1 this
        have := congrArg (fun y : KV => y.1.length) e2
        simp at this
        have := (h1 v hv).2.2
        omega
      exact mkF_wf s3 fun x hx => cT_wf o f x.2 (s2 x hx).1 (s2 x hx).2 (hin x hx)
    have hall : ∀ u ∈ q :: r, e ≤ lcp p.1 u.1 ∧ e < u.1.length ∧ u.1.length < f + 1 := fun u hu => ⟨(hends u hu).1, (hends u hu).2, hf u (List.mem_cons_of_mem _ hu)⟩
    unfold cT
    simp only [hz, he]
    by_cases hp : p.1.length = e
    · rw [if_pos hp]
      exact ⟨⟨fun h => by simp at h, fun h => by simp at h, rfl⟩, part (q :: r) hall (List.pairwise_cons.1 hr).2⟩
    · rw [if_neg hp]
      exact ⟨⟨fun h => by simp at h, fun _ => rfl, rfl⟩, part (p :: q :: r) (fun u hu => by
        rcases List.mem_cons.1 hu with rfl | hu
        · exact ⟨by rw [lcp_same2]; exact hep, by omega, hf _ (List.mem_cons_self ..)⟩
        · exact hall u hu) hr⟩
end Go.Proofs.YtajpipaooaemdaaGreatDoor
