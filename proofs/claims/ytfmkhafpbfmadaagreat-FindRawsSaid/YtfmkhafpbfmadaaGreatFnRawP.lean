/-
  Trees that are made node above node, canonical or not: what they are, that they are well made, how great they are; a node that is just being made.
-/
import Derived.Test.YtfmkhafpbfmadaaGreatFnLook
import Derived.Test.YtfmkhafpbfmadaaGreatNdMake
import Derived.Test.YtfmkhafpbfmadaaGreatCanon
namespace Go.Proofs.YtfmkhafpbfmadaaGreat
open Go.RowKit

def rwTop (p : List UInt8) (i : Nat) : Nn := ⟨false, 1, p, if i % 2 = 0 then (i : Int) + 1 else 0, decide (i % 2 = 0)⟩
def rwLeaf (p : List UInt8) (i : Nat) : Nn := ⟨true, 1, p, (i : Int) + 100, true⟩
def rwKids (b : UInt8) (x : Nn) (k : Fo) (p : List UInt8) (i : Nat) : Fo :=
  if i % 3 = 0 then (if b = 255 then .cons 0 (rwLeaf p i) .nil (.cons b x k .nil) else .cons b x k (.cons (b + 1) (rwLeaf p i) .nil .nil)) else .cons b x k .nil
/-- The tree of the first parts, i of them stand above the first one. -/
def rwT (ps : List (List UInt8)) (bs : List UInt8) : Nat → Nn × Fo
  | 0 => (⟨true, 1, ps.getD 0 [], 0, true⟩, .nil)
  | i + 1 => (rwTop (ps.getD (i + 1) []) i, rwKids (bs.getD i 0) (rwT ps bs i).1 (rwT ps bs i).2 (ps.getD (i + 1) []) i)
theorem succ_u8 {b : UInt8} (h : b ≠ 255) : (b + 1).toNat = b.toNat + 1 := by
  have h1 : b.toNat ≠ 255 := fun q => h (UInt8.toNat_inj.1 q)
  have := b.toNat_lt
  rw [UInt8.toNat_add]
  show (b.toNat + 1) % 256 = _
  omega
theorem rwLeaf_wf (p : List UInt8) (i : Nat) : wfN 1 (rwLeaf p i) .nil := ⟨fun _ => ⟨rfl, rfl⟩, fun h => (by cases h), rfl⟩
theorem rwKids_wf {b : UInt8} {x : Nn} {k : Fo} (p : List UInt8) (i : Nat) (h1 : wfN 1 x k) (h2 : k.wf 1) : (rwKids b x k p i).wf 1 := by
  unfold rwKids
  split
  · split
    · rename_i hb
      exact ⟨by rw [hb]; show (0 : UInt8).toNat < (255 : UInt8).toNat; decide, rwLeaf_wf p i, trivial, trivial, h1, h2, trivial⟩
    · rename_i hb
      exact ⟨by show b.toNat < (b + 1).toNat; rw [succ_u8 hb]; omega, h1, h2, trivial, rwLeaf_wf p i, trivial, trivial⟩
  · exact ⟨trivial, h1, h2, trivial⟩
theorem rwT_wf (ps : List (List UInt8)) (bs : List UInt8) : ∀ i, wfN 1 (rwT ps bs i).1 (rwT ps bs i).2 ∧ (rwT ps bs i).2.wf 1
  | 0 => ⟨⟨fun _ => ⟨rfl, rfl⟩, fun h => (by cases h), rfl⟩, trivial⟩
  | i + 1 => by
    obtain ⟨h1, h2⟩ := rwT_wf ps bs i
    refine ⟨⟨fun h => (by cases h), fun h => ?_, rfl⟩, rwKids_wf _ _ h1 h2⟩
    have h' : decide (i % 2 = 0) = false := h
    have := of_decide_eq_false h'
    show (if i % 2 = 0 then (i : Int) + 1 else 0) = 0
    rw [if_neg this]
theorem rwT_vis {ps : List (List UInt8)} (bs : List UInt8) (hp : ∀ j, (ps.getD j []).length ≤ 300) : ∀ (i : Nat) (pw : List UInt8) (d : Nat), (∀ v ∈ tvis (rwT ps bs i).1 (rwT ps bs i).2 pw d, v.way.length ≤ pw.length + 301 * (i + 1) ∧ v.deep ≤ d + i) ∧ (tvis (rwT ps bs i).1 (rwT ps bs i).2 pw d).length ≤ 2 * i + 1
  | 0, pw, d => by
    have := hp 0
    refine ⟨fun v hv => ?_, by simp [rwT, tvis, Fo.vis]⟩
    simp only [rwT, tvis, Fo.vis, List.mem_singleton] at hv
    subst hv
    refine ⟨?_, Nat.le_refl _⟩
    show (pw ++ ps.getD 0 []).length ≤ _
    rw [List.length_append]
    omega
  | i + 1, pw, d => by
    have h1 := hp (i + 1)
    obtain ⟨p, hpp⟩ : ∃ p, ps.getD (i + 1) [] = p := ⟨_, rfl⟩
    obtain ⟨b, hbb⟩ : ∃ b, bs.getD i 0 = b := ⟨_, rfl⟩
    have e1 : (rwT ps bs (i + 1)).1 = rwTop p i := by rw [rwT, hpp]
    have e2 : (rwT ps bs (i + 1)).2 = rwKids b (rwT ps bs i).1 (rwT ps bs i).2 p i := by rw [rwT, hpp, hbb]
    rw [e1, e2]
    rw [hpp] at h1
    have hlf : ∀ (c : UInt8), tvis (rwLeaf p i) .nil ((pw ++ p) ++ [c]) (d + 1) = [⟨rwLeaf p i, 0, ((pw ++ p) ++ [c]) ++ p, d + 1⟩] := fun c => rfl
    have ih := fun c => rwT_vis bs hp i ((pw ++ p) ++ [c]) (d + 1)
    have hleaf : ∀ (c : UInt8) (v : Vt), v ∈ tvis (rwLeaf p i) .nil ((pw ++ p) ++ [c]) (d + 1) → v.way.length ≤ pw.length + 301 * (i + 1 + 1) ∧ v.deep ≤ d + (i + 1) := fun c v hv => by
      rw [hlf, List.mem_singleton] at hv
      subst hv
      simp only [List.length_append, List.length_singleton]
      omega
    have hold : ∀ (c : UInt8) (v : Vt), v ∈ tvis (rwT ps bs i).1 (rwT ps bs i).2 ((pw ++ p) ++ [c]) (d + 1) → v.way.length ≤ pw.length + 301 * (i + 1 + 1) ∧ v.deep ≤ d + (i + 1) := fun c v hv => by
      obtain ⟨q1, q2⟩ := (ih c).1 v hv
      have hz : 301 * (i + 1 + 1) = 301 * (i + 1) + 301 := by omega
      have e : ((pw ++ p) ++ [c]).length = pw.length + p.length + 1 := by rw [List.length_append, List.length_append]; rfl
      rw [e] at q1
      generalize 301 * (i + 1 + 1) = z1 at hz ⊢
      generalize 301 * (i + 1) = z0 at hz q1
      exact ⟨by omega, by omega⟩
    have hvis : ((rwKids b (rwT ps bs i).1 (rwT ps bs i).2 p i).vis (pw ++ p) (d + 1)).length ≤ 2 * i + 2 ∧ ∀ v ∈ (rwKids b (rwT ps bs i).1 (rwT ps bs i).2 p i).vis (pw ++ p) (d + 1), v.way.length ≤ pw.length + 301 * (i + 1 + 1) ∧ v.deep ≤ d + (i + 1) := by
      unfold rwKids
      split
      · split
        · rw [Fo.vis_cons, Fo.vis_cons, show Fo.nil.vis (pw ++ p) (d + 1) = [] from rfl, List.append_nil]
          refine ⟨by have q := (ih b).2; rw [List.length_append, hlf, List.length_singleton]; omega, fun v hv => ?_⟩
          rcases List.mem_append.1 hv with q | q
          · exact hleaf _ v q
          · exact hold _ v q
        · rw [Fo.vis_cons, Fo.vis_cons, show Fo.nil.vis (pw ++ p) (d + 1) = [] from rfl, List.append_nil]
          refine ⟨by have q := (ih b).2; rw [List.length_append, hlf, List.length_singleton]; omega, fun v hv => ?_⟩
          rcases List.mem_append.1 hv with q | q
          · exact hold _ v q
          · exact hleaf _ v q
      · rw [Fo.vis_cons, show Fo.nil.vis (pw ++ p) (d + 1) = [] from rfl, List.append_nil]
        exact ⟨by have := (ih b).2; omega, fun v hv => hold _ v hv⟩
    refine ⟨fun v hv => ?_, ?_⟩
    · unfold tvis at hv
      rcases List.mem_cons.1 hv with rfl | hv
      · exact ⟨by show (pw ++ p).length ≤ _; rw [List.length_append]; omega, by show d ≤ _; omega⟩
      · exact hvis.2 v hv
    · unfold tvis
      rw [List.length_cons]
      have := hvis.1
      show _ + 1 ≤ _
      have e3 : ((rwKids b (rwT ps bs i).1 (rwT ps bs i).2 p i).vis (pw ++ (rwTop p i).part) (d + 1)).length ≤ 2 * i + 2 := this
      omega
theorem rwT_fits {ps : List (List UInt8)} (bs : List UInt8) (hp : ∀ j, (ps.getD j []).length ≤ 300) {i : Nat} (hi : i ≤ 20) : Fits (some (rwT ps bs i)) := by
  obtain ⟨h1, h2⟩ := rwT_vis bs hp i [] 1
  exact ⟨fun v hv => by have := h1 v hv; simp at this; omega, by show (tvis _ _ [] 1).length ≤ _; omega⟩

/-- A node that is being made: its blocks lie from lo on, below hi. -/
def Upn (w : World) (lo hi u : Nat) (nd : Nd) : Prop := ∃ b A, Nod w u nd b A ∧ ∀ i, b.all u i ∨ Pb A nd.part i → lo ≤ i ∧ i < hi
section
variable {w w' : World} {lo hi u : Nat} {nd : Nd}
theorem Upn.of_new {x : Nd} (h : NwPost w w' none u x none []) (hlo : lo ≤ w.heap.size) : Upn w' lo w'.heap.size u x ∧ Below w.heap.size w w' := by
  obtain ⟨b, A, h1, h2, h3, h4⟩ := h
  refine ⟨⟨b, A, h1, fun i hi => ?_⟩, h4.below (Nat.le_refl _) (fun i q => by cases q)⟩
  rcases hi with q | q
  · exact ⟨Nat.le_trans hlo (h2 i q), h1.lt q⟩
  · refine ⟨?_, h1.ltA q⟩
    rcases h3 i q with z | z
    · exact absurd rfl z.1
    · omega
theorem Upn.below (h : Upn w lo hi u nd) (hb : Below w.heap.size w w') : Upn w' lo hi u nd := by
  obtain ⟨b, A, h1, h2⟩ := h
  exact ⟨b, A, h1.below hb, h2⟩
set_option maxRecDepth 100000 in
theorem Upn.wr {f : FuncId} {args : Array Value} {r : Ending} {nd' : Nd} (h : Upn w lo hi u nd) (hlo : lo ≤ w.heap.size) (hc : ∀ b A, Nod w u nd b A → Calls Tryz.prog f args w fun e w' => e = r ∧ NdPost w w' u nd' b A nd.part) :
    Calls Tryz.prog f args w fun e w' => e = r ∧ Upn w' lo w'.heap.size u nd' ∧ Kept (fun i => lo ≤ i ∧ i < hi) w w' := by
  obtain ⟨b, A, h1, h2⟩ := h
  refine (hc b A h1).mono ?_
  rintro e w' ⟨rfl, b', A', k1, k2, k3, k4⟩
  refine ⟨rfl, ⟨b', A', k1, fun i hi => ?_⟩, k4.mono (fun i hi => h2 i (.inl hi))⟩
  rcases hi with q | q
  · refine ⟨?_, k1.lt q⟩
    rcases q with q | q
    · exact (h2 i (.inl (.inl q))).1
    · rcases k2 i q with z | z
      · exact (h2 i (.inl (.inr z))).1
      · omega
  · refine ⟨?_, k1.ltA q⟩
    rcases k3 i q with z | z
    · exact (h2 i (.inr z)).1
    · omega
set_option maxRecDepth 100000 in
theorem Upn.setval (h : Upn w lo hi u nd) (hlo : lo ≤ w.heap.size) (v : Int) :
    Calls Tryz.prog 26 #[.pointer (some ⟨u, 0, none⟩), .int .u64 1, .int .u64 v] w fun e w' => e = .returned (.int .i64 (closN nd 1)) ∧ Upn w' lo w'.heap.size u (nSetVal nd 1 v) ∧ Kept (fun i => lo ≤ i ∧ i < hi) w w' :=
  h.wr hlo fun _ _ hn => nsetval_any hn 1 v
set_option maxRecDepth 100000 in
theorem Upn.setkid (h : Upn w lo hi u nd) (hlo : lo ≤ w.heap.size) (c : UInt8) (z : Int) (hz : z = (c.toNat : Int)) {g : Nat} {x : Nd} {be : Be} {A : Option Addr} (hk : Nod w g x be A) :
    Calls Tryz.prog 25 #[.pointer (some ⟨u, 0, none⟩), .int .u64 1, .int .u8 z, .pointer (some ⟨g, 0, none⟩)] w fun e w' => e = .returned (.int .i64 (setKN nd 1 (some ⟨g, 0, none⟩))) ∧ Upn w' lo w'.heap.size u (nSetKid nd 1 c (some ⟨g, 0, none⟩)) ∧ Kept (fun i => lo ≤ i ∧ i < hi) w w' :=
  h.wr hlo fun _ _ hn => nsetkid_any hn 1 c z hz (some ⟨g, 0, none⟩) (fun a ha => by
    injection ha with ha
    subst ha
    exact ⟨isN x.leaf, by unfold isN; split <;> omega, what_any hk⟩)
theorem Upn.tre {x : Nn} {k : Fo} {es : List Ent} (h : Upn w lo hi u (x.nd es)) (hk : k.Is w (· < w.heap.size) es) : Tre w (· < w.heap.size) x k u := by
  obtain ⟨b, A, h1, _⟩ := h
  exact ⟨b, A, es, h1, fun i hi => hi.elim (fun q => h1.lt q) (fun q => h1.ltA q), hk⟩
end
theorem Tre.one {w : World} {S : Nat → Prop} {x : Nn} {k : Fo} {g : Nat} (b : UInt8) (h : Tre w S x k g) {r : Fo} {er : List Ent} (hr : r.Is w S er) : (Fo.cons b x k r).Is w S ((b, some ⟨g, 0, none⟩) :: er) := by
  obtain ⟨be, A, ek, h1, h2, h3⟩ := h
  exact ⟨g, be, A, ek, er, rfl, h1, h2, h3, hr⟩
theorem set_one (b : UInt8) (t : Th) : setE [] b t = [(b, t)] := set_end b t (fun _ h => by cases h)
theorem set_two {b : UInt8} (h : b ≠ 255) (t s : Th) : setE [(b, t)] (b + 1) s = [(b, t), (b + 1, s)] := set_end _ _ (fun e he => by
  simp only [List.mem_singleton] at he
  subst he
  rw [succ_u8 h]
  exact Nat.lt_succ_self _)
theorem set_low (t s : Th) : setE [((255 : UInt8), t)] (255 + 1) s = [(0, s), (255, t)] := by rfl
end Go.Proofs.YtfmkhafpbfmadaaGreat
