/-
  find.look: whoever is told the beginnings, one behind the other: what is told, and how many nodes are gone into.
  find.Get, find.Has, find.Steps.
  What is found in a well-made tree, whoever owns its nodes.
  Which way a pair goes into a tree whose kids stand by their bytes, whoever owns the nodes; whether the key is met. No program is run.
-/
import Derived.Test.YtajpipaooaemdaaGreatDoorTowW
import Derived.Test.YtajpipaooaemdaaGreatDoorCmp
import Derived.Test.YtajpipaooaemdaaGreatDoorCanon
import Derived.Test.YtajpipaooaemdaaGreatDoorPutP
import Derived.Test.YtajpipaooaemdaaGreatDoorRaws
import Derived.Test.YtajpipaooaemdaaGreatDoorCanonPt
namespace Go.Proofs.YtajpipaooaemdaaGreatDoor
open Go.RowKit

/-- One who listens: J tells what he has left behind of what he was told. -/
structure Hears (n₀ : Nat) (w : World) (K : FuncId) (cap : Array Value) (all : List (Option (Nat × Int))) (J : List (Nat × Int) → World → Prop) : Prop where
  fn : ∀ (xs : Array Value) (V : World), (callFunc K xs).run Tryz.prog V = .ok (.enter K xs) V
  on : ∀ l V V', J l V → Below n₀ w V → Below V.heap.size V V' → J l V'
  call : ∀ pre post a v V, all = pre ++ some (a, v) :: post → J (pre.filterMap id) V → Below n₀ w V → n₀ ≤ V.heap.size → Calls Tryz.prog K (#[.int .i64 ((a : Nat) : Int), .int .u64 v] ++ cap) V fun e V' => e = .returned (.tuple #[]) ∧ J ((pre ++ [some (a, v)]).filterMap id) V' ∧ Below n₀ V V'
/-- Where the loop stands. -/
def LkS (n₀ : Nat) (w : World) (t : Option (Nn × Fo)) (key : List UInt8) (J : List (Nat × Int) → World → Prop) (q : Option Addr) (s a : Nat) (V : World) : Prop :=
  ∃ t' pre, ogo t key 0 = pre ++ ogo t' (key.drop a) a ∧ pre.length = s ∧ a ≤ key.length ∧ OTre V (· < n₀) t' q ∧ J (pre.filterMap id) V ∧ Below n₀ w V
theorem Tre.nod {w : World} {S : Nat → Prop} {x : Nn} {k : Fo} {g : Nat} (h : Tre w S x k g) : ∃ be A ek, Nod w g (x.nd ek) be A ∧ k.Is w S ek := by
  obtain ⟨be, A, ek, h1, _, h3⟩ := h
  exact ⟨be, A, ek, h1, h3⟩
end Go.Proofs.YtajpipaooaemdaaGreatDoor

namespace Go.Proofs.YtajpipaooaemdaaGreatDoor
open Go.RowKit

/-- What Get has heard: three boxes from block b on. -/
def getJ (b : Nat) (A : Option Addr) (n c : Nat) (l : List (Nat × Int)) (V : World) : Prop :=
  Blk V b #[.slice A n c] ∧ Blk V (b + 1) #[.int .u64 (getF l n).1] ∧ Blk V (b + 2) #[.bool (getF l n).2]
theorem getJ.kept {b : Nat} {A : Option Addr} {n c : Nat} {l : List (Nat × Int)} {V V' : World} (h : getJ b A n c l V) (hb : Below V.heap.size V V') : getJ b A n c l V' :=
  ⟨h.1.below hb h.1.lt, h.2.1.below hb h.2.1.lt, h.2.2.below hb h.2.2.lt⟩
end Go.Proofs.YtajpipaooaemdaaGreatDoor

namespace Go.Proofs.YtajpipaooaemdaaGreatDoor
open Go.RowKit

theorem Fo.goes_by (o : Int) : ∀ (f : Fo) (c : UInt8) (l : List UInt8) (a : Nat), (f.by o).goes c l a = f.goes c l a
  | .nil, _, _, _ => rfl
  | .cons b x k r, c, l, a => by
    rw [Fo.by, Fo.goes, Fo.goes, Fo.goes_by o r]
    show (if b = c then (if begB l x.part = true then x.tell a :: _ else _) else _) = _
    cases hd : l.drop x.part.length with
    | nil =>
      have : l.drop (x.by o).part.length = [] := hd
      rw [this]
    | cons c' l' =>
      have : l.drop (x.by o).part.length = c' :: l' := hd
      rw [this]
      show (if b = c then (if begB l x.part = true then x.tell a :: (k.by o).goes c' l' (a + x.part.length + 1) else _) else _) = _
      rw [Fo.goes_by o k]
theorem ogo_by (o : Int) (t : Option (Nn × Fo)) (l : List UInt8) (a : Nat) : ogo (t.map (byT o)) l a = ogo t l a := by
  cases t with
  | none => rfl
  | some t =>
    have := Fo.goes_by o (.cons 0 t.1 t.2 .nil) 0 l a
    rw [Fo.by, Fo.goes_cons, Fo.goes_cons, if_pos rfl, if_pos rfl] at this
    exact this
theorem olist_by (o : Int) (t : Option (Nn × Fo)) : olist (t.map (byT o)) = olist t := by
  cases t with
  | none => rfl
  | some t => exact by_tlist o t.1 t.2 []
/-- Well made, whoever owns the nodes. -/
def owfB (t : Option (Nn × Fo)) : Prop := owf (t.map (byT 1))
theorem Can.owf {ps : List PV} {T : Nn × Fo} (h : Can ps T) : owfB (some T) := h.wf
theorem owfB.rise {t : Option (Nn × Fo)} (h : owfB t) : Rise (olist t) := by
  have := olist_rise h
  rwa [olist_by] at this
theorem owfB.get {t : Option (Nn × Fo)} (h : owfB t) (key : List UInt8) : getF ((ogo t key 0).filterMap id) key.length = firstK (olist t) key := by
  have h1 := ogo_begs h key 0
  rw [ogo_by, olist_by] at h1
  rw [h1, getK_begs, first_get h.rise]
theorem firstK_yes {L : List KV} (h : Rise L) {l : List UInt8} {v : Int} : firstK L l = (v, true) ↔ (l, v) ∈ L := by
  constructor
  · intro e
    rcases firstK_cases L l with ⟨_, q⟩ | ⟨p, hp, rfl, q⟩
    · rw [q] at e
      injection e with _ e
      cases e
    · rw [q] at e
      injection e with e _
      subst e
      exact hp
  · intro hm
    rcases firstK_cases L l with ⟨q, _⟩ | ⟨p, hp, e, q⟩
    · exact absurd rfl (q _ hm)
    · have := rise_one h hp hm e
      subst this
      exact q
theorem firstK_no {L : List KV} {l : List UInt8} {v : Int} (e : firstK L l = (v, false)) : ∀ p ∈ L, p.1 ≠ l := by
  rcases firstK_cases L l with ⟨q, _⟩ | ⟨p, _, _, q⟩
  · exact q
  · rw [q] at e
    injection e with _ e
    cases e
/-- The canonical tree of anybody, as it was built. -/
theorem bTr_can {ps : List PV} (o : Int) (hr : Rsn ps) (hne : ps ≠ []) (f : Nat) (hf : ∀ p ∈ ps, p.key.length < f) : Can ps (cT o f (ps.map kvP)) := by
  have hL : rel 0 ps = ps.map kvP := rel_zero ps
  have h1 := can_of o hr hne hf
  rw [hL] at h1
  have hM : ps.map kvP ≠ [] := by simpa using hne
  have hlen : ∀ p ∈ ps.map kvP, p.1.length < f := fun p hp => by
    obtain ⟨q, hq, rfl⟩ := List.mem_map.1 hp
    exact hf q hq
  have hR := rsn_rel hr
  rw [hL] at hR
  obtain ⟨w1, w2⟩ := cT_wf o f (ps.map kvP) hM hR hlen
  exact ⟨wfN_by w1, wf_by w2, h1.good, h1.list⟩
/-- All of it is that owner's. -/
theorem bTr_all {ps : List PV} (o : Int) (hr : Rsn ps) (hne : ps ≠ []) (f : Nat) (hf : ∀ p ∈ ps, p.key.length < f) : allT (fun q => q = o) (cT o f (ps.map kvP)) := by
  have hL : rel 0 ps = ps.map kvP := rel_zero ps
  have hM : ps.map kvP ≠ [] := by simpa using hne
  have hlen : ∀ p ∈ ps.map kvP, p.1.length < f := fun p hp => by
    obtain ⟨q, hq, rfl⟩ := List.mem_map.1 hp
    exact hf q hq
  have hR := rsn_rel hr
  rw [hL] at hR
  obtain ⟨w1, w2⟩ := cT_wf o f (ps.map kvP) hM hR hlen
  exact ⟨w1.2.2, Fo.wf_all w2⟩
theorem OCan.owf {ps : List PV} {t : Option (Nn × Fo)} (h : OCan ps t) : owfB t := by
  cases t with
  | none => trivial
  | some T => exact Can.owf h
theorem bTr_ocan {ps : List PV} (o : Int) (hr : Rsn ps) (f : Nat) (hf : ∀ p ∈ ps, p.key.length < f) : OCan ps (bTr o f (rel 0 ps)) ∧ oall (fun q => q = o) (bTr o f (rel 0 ps)) := by
  have hL : rel 0 ps = ps.map kvP := rel_zero ps
  by_cases hne : ps = []
  · subst hne
    exact ⟨rfl, trivial⟩
  · have hne2 : rel 0 ps ≠ [] := by rw [hL]; simpa using hne
    unfold bTr
    rw [if_neg hne2, hL]
    exact ⟨bTr_can o hr hne f hf, bTr_all o hr hne f hf⟩
end Go.Proofs.YtajpipaooaemdaaGreatDoor

namespace Go.Proofs.YtajpipaooaemdaaGreatDoor
open Go.RowKit

/-- Kids stand by their bytes. -/
def Fo.srt : Fo → Prop
  | .nil => True
  | .cons b x k r => r.above b ∧ (x.leaf = true → k = .nil) ∧ k.srt ∧ r.srt
def osrt : Option (Nn × Fo) → Prop
  | none => True
  | some t => (t.1.leaf = true → t.2 = .nil) ∧ t.2.srt
theorem nil_by {o : Int} {k : Fo} (h : k.by o = .nil) : k = .nil := by
  cases k with
  | nil => rfl
  | cons _ _ _ _ => cases h
theorem Fo.srt_by {o o' : Int} : ∀ {f : Fo}, (f.by o).wf o' → f.srt
  | .nil, _ => trivial
  | .cons b x k r, ⟨h1, h2, h3, h4⟩ => ⟨by
    cases r with
    | nil => trivial
    | cons _ _ _ _ => exact h1, fun q => nil_by (h2.1 q).1, Fo.srt_by h3, Fo.srt_by h4⟩
/-- Whether the key is met. -/
def Fo.hits : Fo → UInt8 → List UInt8 → Bool
  | .nil, _, _ => false
  | .cons b x k r, c, l =>
    if b = c then (if begB l x.part = true then (match l.drop x.part.length with
      | [] => true
      | c' :: l' => k.hits c' l') else false)
    else r.hits c l
def thit (x : Nn) (k : Fo) (l : List UInt8) : Bool := if begB l x.part = true then (match l.drop x.part.length with
  | [] => true
  | c' :: l' => k.hits c' l') else false
def ohit : Option (Nn × Fo) → List UInt8 → Bool
  | none, _ => false
  | some t, l => thit t.1 t.2 l
section
variable {o v : Int} {x : Nn} {k : Fo} {l : List UInt8}
/-- How far both go together. -/
theorem lcp_beg : begB l x.part = true ↔ lcp l x.part = x.part.length := by unfold begB; simp
end
theorem part_split (l m : List UInt8) : m = l.take (lcp l m) ++ m.drop (lcp l m) := lcp_take (p := l) (u := m) (Nat.le_refl _)
theorem whole_of {l m : List UInt8} (h : lcp l m = m.length) : m = l.take m.length ∧ m.drop (lcp l m) = [] := by
  have h1 := part_split l m
  have h2 : m.drop (lcp l m) = [] := by rw [h]; exact List.drop_length ..
  rw [h2, List.append_nil, h] at h1
  exact ⟨h1, h2⟩
theorem Can.srt {ps : List PV} {T : Nn × Fo} (h : Can ps T) : osrt (some T) := ⟨fun q => nil_by (h.top.1 q).1, Fo.srt_by h.wf⟩
theorem OCan.srt {ps : List PV} {t : Option (Nn × Fo)} (h : OCan ps t) : osrt t := by
  cases t with
  | none => trivial
  | some T => exact Can.srt h
end Go.Proofs.YtajpipaooaemdaaGreatDoor
