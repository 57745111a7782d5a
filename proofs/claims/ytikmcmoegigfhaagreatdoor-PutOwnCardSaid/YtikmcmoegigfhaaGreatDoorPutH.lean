/-
  Which way a pair goes into a tree whose kids stand by their bytes, whoever owns the nodes; whether the key is met. No program is run.
-/
import Derived.Test.YtikmcmoegigfhaaGreatDoorPutP
namespace Go.Proofs.YtikmcmoegigfhaaGreatDoor
open Go.RowKit

/-- Kids stand by their bytes. -/
def Fo.srt : Fo → Prop
  | .nil => True
  | .cons b x k r => r.above b ∧ (x.leaf = true → k = .nil) ∧ k.srt ∧ r.srt
def osrt : Option (Nn × Fo) → Prop
  | none => True
  | some t => (t.1.leaf = true → t.2 = .nil) ∧ t.2.srt
theorem nil_by {o : Int} {k : Fo} (h : k.by o = .nil) : k = .nil := by
  cases k with
  | nil => rfl
  | cons _ _ _ _ => cases h
theorem Fo.srt_by {o o' : Int} : ∀ {f : Fo}, (f.by o).wf o' → f.srt
  | .nil, _ => trivial
  | .cons b x k r, ⟨h1, h2, h3, h4⟩ => ⟨by
    cases r with
    | nil => trivial
    | cons _ _ _ _ => exact h1, fun q => nil_by (h2.1 q).1, Fo.srt_by h3, Fo.srt_by h4⟩
theorem Fo.kid_low : ∀ {f : Fo} {b c : UInt8}, f.srt → f.above b → c.toNat ≤ b.toNat → f.kid c = none
  | .nil, _, _, _, _, _ => rfl
  | .cons b' x k r, b, c, ⟨h1, _, _, h4⟩, ha, hc => by
    have ha' : b.toNat < b'.toNat := ha
    have hn : b' ≠ c := fun e => by subst e; omega
    rw [Fo.kid, if_neg hn]
    exact Fo.kid_low h4 h1 (by omega)
theorem Fo.srt_kid : ∀ {f : Fo} {c : UInt8}, f.srt → osrt (f.kid c)
  | .nil, _, _ => trivial
  | .cons b x k r, c, ⟨_, h1, h2, h3⟩ => by
    rw [Fo.kid]
    split
    · exact ⟨h1, h2⟩
    · exact Fo.srt_kid h3
theorem Fo.puts_srt (o v : Int) : ∀ {f : Fo}, f.srt → ∀ (c : UInt8) (l : List UInt8), f.puts o v c l = f.set c (oput o v (f.kid c) l).1 (oput o v (f.kid c) l).2
  | .nil, _, c, l => rfl
  | .cons b x k r, ⟨h1, _, _, h4⟩, c, l => by
    rw [Fo.puts, Fo.set, Fo.kid]
    by_cases e : c = b
    · subst e
      rw [if_pos rfl, if_pos rfl, if_pos rfl]
      rfl
    · have e' : b ≠ c := fun q => e q.symm
      rw [if_neg e, if_neg e, if_neg e']
      by_cases h : c.toNat < b.toNat
      · rw [if_pos h, if_pos h, Fo.kid_low h4 h1 (Nat.le_of_lt h)]
        rfl
      · rw [if_neg h, if_neg h, Fo.puts_srt o v h4 c l]
/-- Whether the key is met. -/
def Fo.hits : Fo → UInt8 → List UInt8 → Bool
  | .nil, _, _ => false
  | .cons b x k r, c, l =>
    if b = c then (if begB l x.part = true then (match l.drop x.part.length with
      | [] => true
      | c' :: l' => k.hits c' l') else false)
    else r.hits c l
def thit (x : Nn) (k : Fo) (l : List UInt8) : Bool := if begB l x.part = true then (match l.drop x.part.length with
  | [] => true
  | c' :: l' => k.hits c' l') else false
def ohit : Option (Nn × Fo) → List UInt8 → Bool
  | none, _ => false
  | some t, l => thit t.1 t.2 l
theorem Fo.hits_kid : ∀ (f : Fo) (c : UInt8) (l : List UInt8), f.hits c l = ohit (f.kid c) l
  | .nil, _, _ => rfl
  | .cons b x k r, c, l => by
    rw [Fo.hits, Fo.kid]
    split
    · rfl
    · exact Fo.hits_kid r c l
section
variable {o v : Int} {x : Nn} {k : Fo} {l : List UInt8}
theorem thit_no (h : begB l x.part = false) : thit x k l = false := by
  unfold thit
  rw [h]
  rfl
theorem thit_on {l' : List UInt8} {c : UInt8} (h : begB l x.part = true) (hl : l.drop x.part.length = c :: l') : thit x k l = ohit (k.kid c) l' := by
  unfold thit
  rw [if_pos h, hl, ← Fo.hits_kid]
theorem tput_goes' (hk : k.srt) {d : UInt8} {lr : List UInt8} (h1 : x.part.drop (lcp l x.part) = []) (h2 : l.drop (lcp l x.part) = d :: lr) (hl : x.leaf = false) : tput o v x k l = (⟨false, o, x.part, x.val, x.has⟩, k.set d (oput o v (k.kid d) lr).1 (oput o v (k.kid d) lr).2) := by
  unfold tput tputW
  rw [h1, h2, ← Fo.puts_srt o v hk]
  exact if_neg (by rw [hl]; exact Bool.false_ne_true)
/-- How far both go together. -/
theorem lcp_beg : begB l x.part = true ↔ lcp l x.part = x.part.length := by unfold begB; simp
end
theorem part_split (l m : List UInt8) : m = l.take (lcp l m) ++ m.drop (lcp l m) := lcp_take (p := l) (u := m) (Nat.le_refl _)
theorem whole_of {l m : List UInt8} (h : lcp l m = m.length) : m = l.take m.length ∧ m.drop (lcp l m) = [] := by
  have h1 := part_split l m
  have h2 : m.drop (lcp l m) = [] := by rw [h]; exact List.drop_length ..
  rw [h2, List.append_nil, h] at h1
  exact ⟨h1, h2⟩
theorem Fo.hits_mem : ∀ {f : Fo}, f.srt → ∀ p ∈ f.list [], ∃ c t, p.1 = c :: t ∧ f.hits c t = true ∧ ∀ b : UInt8, f.above b → b.toNat < c.toNat
  | .nil, _, p, hp => by cases hp
  | .cons b x k r, ⟨h1, _, h2, h3⟩, p, hp => by
    rcases mem_fo.1 hp with ⟨q, hq, rfl⟩ | hr
    · refine ⟨b, q.1, rfl, ?_, fun _ q => q⟩
      rw [Fo.hits, if_pos rfl]
      rcases mem_tlist.1 hq with ⟨_, rfl⟩ | ⟨z, hz, rfl⟩
      · dsimp only
        rw [if_pos (beg_self _), List.drop_length]
      · obtain ⟨c, t, e, h4, _⟩ := Fo.hits_mem h2 z hz
        dsimp only
        have hb : begB (x.part ++ z.1) x.part = true := by
          unfold begB
          rw [decide_eq_true_eq]
          have h5 : x.part.drop (lcp (x.part ++ z.1) x.part) = [] := part_end.2 (List.prefix_append _ _)
          have h6 := congrArg List.length h5
          rw [List.length_drop, List.length_nil] at h6
          have := lcp_le_right (x.part ++ z.1) x.part
          omega
        rw [if_pos hb, List.drop_left, e]
        exact h4
    · obtain ⟨c, t, e, h4, h5⟩ := Fo.hits_mem h3 p hr
      have hbc : b.toNat < c.toNat := h5 b h1
      refine ⟨c, t, e, ?_, fun b' hb' => ?_⟩
      · rw [Fo.hits, if_neg (fun q => by subst q; omega)]
        exact h4
      · have hb2 : b'.toNat < b.toNat := hb'
        omega
/-- A key that a tree has is met. -/
theorem ohit_mem {t : Option (Nn × Fo)} (h : osrt t) {l : List UInt8} {v : Int} (hm : (l, v) ∈ olist t) : ohit t l = true := by
  cases t with
  | none => cases hm
  | some t =>
    have h1 : (0 :: l, v) ∈ (Fo.cons 0 t.1 t.2 .nil).list [] := mem_fo.2 (.inl ⟨(l, v), hm, rfl⟩)
    obtain ⟨c, l', e, h2, _⟩ := Fo.hits_mem (f := .cons 0 t.1 t.2 .nil) ⟨trivial, h.1, h.2, trivial⟩ _ h1
    injection e with e1 e2
    subst e1
    subst e2
    rw [Fo.hits_kid, Fo.kid, if_pos rfl] at h2
    exact h2
theorem Can.srt {ps : List PV} {T : Nn × Fo} (h : Can ps T) : osrt (some T) := ⟨fun q => nil_by (h.top.1 q).1, Fo.srt_by h.wf⟩
theorem OCan.srt {ps : List PV} {t : Option (Nn × Fo)} (h : OCan ps t) : osrt t := by
  cases t with
  | none => trivial
  | some T => exact Can.srt h
end Go.Proofs.YtikmcmoegigfhaaGreatDoor
