/-
  The document's trees on their way: a node in a variable of its own, its bytes and kids in rows that grow; which blocks a tree lies in.
  The document's canonical tree of pairs: shared, build, Build.
-/
import Derived.Test.YtajpipaooaemdaaGreatDoorDtShape
import Derived.Test.YtajpipaooaemdaaGreatDoorRaws
import Derived.Test.YtajpipaooaemdaaGreatDoorBuild
import Derived.Test.YtajpipaooaemdaaGreatDoorCanonPt
import Derived.Test.YtajpipaooaemdaaGreatDoorKd
import Derived.Test.YtajpipaooaemdaaGreatDoorCnLaw
namespace Go.Proofs.YtajpipaooaemdaaGreatDoor
open Go.RowKit

theorem Byt.keptS {D S : Nat → Prop} {w w' : World} {A : Option Addr} {n : Nat} {l : List UInt8} (h : Byt w w.heap.size A n l) (hS : ∀ i, Pb A l i → S i) (hk : Kept D w w') (hD : ∀ i, S i → ¬ D i) : Byt w' w'.heap.size A n l := by
  have hn := h.1
  subst hn
  exact (h.keepPb fun p hp => hk.cell (h.ltPb hp) (hD _ (hS _ hp))).more hk.size
theorem Rws.keptS {D : Nat → Prop} {w w' : World} {A : Option Addr} {n k : Nat} {css : List (List Value)} (h : Rws w w.heap.size A n k css) (hk : Kept D w w') (hD : ∀ ad, A = some ad → 0 < n → ¬ D ad.block) : Rws w' w'.heap.size A n k css :=
  ⟨h.1, h.2.1, h.2.2.1, fun hn => by
    obtain ⟨ad, e, hb, hc⟩ := h.2.2.2 hn
    have := hk.size
    exact ⟨ad, e, by omega, fun j i c u hj hi => (hk.cell (by rw [block_of_add]; exact hb) (by rw [block_of_add]; exact hD ad e hn)).trans (hc j i c u hj hi)⟩⟩
/-- The blocks are all in S. -/
structure DatS (w : World) (S : Nat → Prop) (x : Nn) (k : Fo) (d : Dv) (ek : List (List Value)) : Prop where
  dat : Dat w w.heap.size x k d ek
  pS : ∀ i, Pb d.A x.part i → S i
  bS : ∀ i, Pb d.Ab k.bytes i → S i
  rS : ∀ ad, d.Ak = some ad → 0 < d.nk → S ad.block
def Fo.DisS (w : World) (S : Nat → Prop) : Fo → List (List Value) → Prop
  | .nil, css => css = []
  | .cons _ x k r, css => ∃ d ek er, css = d.cells x k :: er ∧ DatS w S x k d ek ∧ Fo.DisS w S k ek ∧ Fo.DisS w S r er
def DnoS (w : World) (S : Nat → Prop) (x : Nn) (k : Fo) (cs : List Value) : Prop := ∃ d ek, cs = d.cells x k ∧ DatS w S x k d ek ∧ k.DisS w S ek
section
variable {w w' : World} {S S' D : Nat → Prop}
theorem DatS.kept {x : Nn} {k : Fo} {d : Dv} {ek : List (List Value)} (h : DatS w S x k d ek) (hk : Kept D w w') (hD : ∀ i, S i → ¬ D i) : DatS w' S x k d ek :=
  ⟨⟨h.dat.part.keptS h.pS hk hD, h.dat.pr, h.dat.byt.keptS h.bS hk hD, h.dat.br, h.dat.row.keptS hk (fun ad e hn => hD _ (h.rS ad e hn)), h.dat.kr⟩, h.pS, h.bS, h.rS⟩
theorem Fo.DisS.kept (hk : Kept D w w') (hD : ∀ i, S i → ¬ D i) : ∀ {k : Fo} {css : List (List Value)}, k.DisS w S css → k.DisS w' S css
  | .nil, _, h => h
  | .cons _ _ _ _, _, ⟨d, ek, er, e, h1, h2, h3⟩ => ⟨d, ek, er, e, h1.kept hk hD, Fo.DisS.kept hk hD h2, Fo.DisS.kept hk hD h3⟩
theorem DatS.mono {x : Nn} {k : Fo} {d : Dv} {ek : List (List Value)} (h : DatS w S x k d ek) (hS : ∀ i, S i → i < w.heap.size → S' i) (hbt : ∀ i, Pb d.A x.part i → i < w.heap.size) (hbb : ∀ i, Pb d.Ab k.bytes i → i < w.heap.size) : DatS w S' x k d ek :=
  ⟨h.dat, fun i hi => hS i (h.pS i hi) (hbt i hi), fun i hi => hS i (h.bS i hi) (hbb i hi), fun ad e hn => hS _ (h.rS ad e hn) (by obtain ⟨ad', e', hb, _⟩ := h.dat.row.2.2.2 hn; rw [e] at e'; injection e' with e'; rw [e']; exact hb)⟩
theorem DatS.mono' {x : Nn} {k : Fo} {d : Dv} {ek : List (List Value)} (h : DatS w S x k d ek) (hS : ∀ i, S i → i < w.heap.size → S' i) : DatS w S' x k d ek :=
  h.mono hS (fun i hi => by have q := h.dat.part; have hn := q.1; rw [← hn] at q; exact q.ltPb hi) (fun i hi => by have q := h.dat.byt; have hn := q.1; rw [← hn] at q; exact q.ltPb hi)
theorem Fo.DisS.mono (hS : ∀ i, S i → i < w.heap.size → S' i) : ∀ {k : Fo} {css : List (List Value)}, k.DisS w S css → k.DisS w S' css
  | .nil, _, h => h
  | .cons _ _ _ _, _, ⟨d, ek, er, e, h1, h2, h3⟩ => ⟨d, ek, er, e, h1.mono' hS, Fo.DisS.mono hS h2, Fo.DisS.mono hS h3⟩
theorem Fo.DisS.dis : ∀ {k : Fo} {css : List (List Value)}, k.DisS w S css → k.Dis w w.heap.size css
  | .nil, _, h => h
  | .cons _ _ _ _, _, ⟨d, ek, er, e, h1, h2, h3⟩ => ⟨d, ek, er, e, h1.dat, Fo.DisS.dis h2, Fo.DisS.dis h3⟩
theorem Fo.DisS.len : ∀ {k : Fo} {css : List (List Value)}, k.DisS w S css → css.length = k.len
  | .nil, _, h => by cases h; rfl
  | .cons _ _ _ _, _, ⟨_, _, _, e, _, _, h3⟩ => by subst e; simp [Fo.len, Fo.DisS.len h3]
theorem Fo.DisS.app : ∀ {d s : Fo} {es fs : List (List Value)}, d.DisS w S es → s.DisS w S fs → (d.app s).DisS w S (es ++ fs)
  | .nil, _, _, _, h, h' => by cases h; exact h'
  | .cons _ _ _ _, _, _, _, ⟨d, ek, er, e, h1, h2, h3⟩, h' => by
    subst e
    exact ⟨d, ek, er ++ _, rfl, h1, h2, Fo.DisS.app h3 h'⟩
theorem DnoS.dno {x : Nn} {k : Fo} {cs : List Value} (h : DnoS w S x k cs) : Dno w w.heap.size x k cs := by
  obtain ⟨d, ek, e, h1, h2⟩ := h
  exact ⟨d, ek, e, h1.dat, h2.dis⟩
theorem DnoS.kept {x : Nn} {k : Fo} {cs : List Value} (h : DnoS w S x k cs) (hk : Kept D w w') (hD : ∀ i, S i → ¬ D i) : DnoS w' S x k cs := by
  obtain ⟨d, ek, e, h1, h2⟩ := h
  exact ⟨d, ek, e, h1.kept hk hD, h2.kept hk hD⟩
theorem DnoS.mono {x : Nn} {k : Fo} {cs : List Value} (h : DnoS w S x k cs) (hS : ∀ i, S i → i < w.heap.size → S' i) : DnoS w S' x k cs := by
  obtain ⟨d, ek, e, h1, h2⟩ := h
  exact ⟨d, ek, e, h1.mono' hS, h2.mono hS⟩
end
theorem bytes_app : ∀ (d s : Fo), (d.app s).bytes = d.bytes ++ s.bytes
  | .nil, _ => rfl
  | .cons b _ _ r, s => by show b :: (r.app s).bytes = b :: (r.bytes ++ s.bytes); rw [bytes_app r s]
theorem MineR.byt1 {w : World} {base : Nat} {e : TypeId} {A : Option Addr} {n c : Nat} {bs : List UInt8} (h : MineR w base e 1 (.slice A n c) n (bs.map fun b => [.int .u8 (b.toNat : Int)])) : Byt w w.heap.size A n bs := by
  have hr := h.rws
  refine ⟨by have := hr.1; simpa using this, hr.2.1, fun hn => ?_⟩
  obtain ⟨ad, e1, hb, hc⟩ := hr.2.2.2 hn
  refine ⟨ad, e1, hb, fun j u hu => ?_⟩
  have := hc j 0 [.int .u8 (u.toNat : Int)] (.int .u8 (u.toNat : Int)) (by rw [List.getElem?_map, hu]; rfl) rfl
  rwa [Nat.mul_one, Nat.add_zero] at this
/-- Which blocks the kids may lie in: what came in, and what is neither the node nor its rows. -/
def DSet (B base g : Nat) (vb vk : Value) (sz : Nat) (i : Nat) : Prop := i < B ∨ (base ≤ i ∧ i < sz ∧ i ≠ g ∧ vb.ownBlock ≠ some i ∧ vk.ownBlock ≠ some i)
/-- A node on its way: its variable is block g. -/
structure DB (B base : Nat) (W : World) (g : Nat) (a0 aP aH aV vb vk : Value) (bs : List UInt8) (css : List (List Value)) (d : Fo) : Prop where
  blk : Blk W g #[a0, aP, aH, aV, vb, vk]
  byt : MineR W base 5 1 vb bs.length (bs.map fun b => [.int .u8 (b.toNat : Int)])
  kids : MineR W base 69 6 vk css.length css
  dis : d.DisS W (DSet B base g vb vk W.heap.size) css
  lo : B ≤ base
  gb : base ≤ g
  ob : vb.ownBlock ≠ some g
  ok : vk.ownBlock ≠ some g
  bk : ∀ i, vb.ownBlock = some i → vk.ownBlock ≠ some i
section
variable {B base g : Nat} {W : World} {a0 aP aH aV vb vk : Value} {bs : List UInt8} {css : List (List Value)} {d : Fo}
theorem DB.start (h : Blk W g #[a0, aP, aH, aV, .slice none 0 0, .slice none 0 0]) (lo : B ≤ base) (gb : base ≤ g) : DB B base W g a0 aP aH aV (.slice none 0 0) (.slice none 0 0) [] [] .nil :=
  ⟨h, MineR.nil _ _ _ _, MineR.nil _ _ _ _, rfl, lo, gb, (by simp [Value.ownBlock]), (by simp [Value.ownBlock]), (by simp [Value.ownBlock])⟩
theorem DB.below (h : DB B base W g a0 aP aH aV vb vk bs css d) {W' : World} (hb : Below W.heap.size W W') : DB B base W' g a0 aP aH aV vb vk bs css d :=
  have hk : Kept (fun _ => False) W W' := Kept.of_below hb
  ⟨hk.blk h.blk (fun q => q), h.byt.keptK hk (fun _ _ q => q), h.kids.keptK hk (fun _ _ q => q), (h.dis.kept hk (fun _ _ q => q)).mono (fun i hi _ => by
    rcases hi with q | ⟨q1, q2, q3⟩
    · exact .inl q
    · exact .inr ⟨q1, Nat.lt_of_lt_of_le q2 hk.size, q3⟩), h.lo, h.gb, h.ob, h.ok, h.bk⟩
theorem DB.still (h : DB B base W g a0 aP aH aV vb vk bs css d) {W' : World} (hs : Still W W') : DB B base W' g a0 aP aH aV vb vk bs css d := h.below (hs.below _)
/-- Its first four cells are turned. -/
theorem DB.turn (h : DB B base W g a0 aP aH aV vb vk bs css d) {W' : World} {b0 bP bH bV : Value} (hk : Kept (· = g) W W') (hb : Blk W' g #[b0, bP, bH, bV, vb, vk]) : DB B base W' g b0 bP bH bV vb vk bs css d :=
  ⟨hb, h.byt.keptK hk (fun i hi q => h.ob (q ▸ hi)), h.kids.keptK hk (fun i hi q => h.ok (q ▸ hi)), (h.dis.kept hk (fun i hi q => by
    rcases hi with z | ⟨_, _, z, _⟩
    · have := h.lo; have := h.gb; omega
    · exact z q)).mono (fun i hi _ => by
    rcases hi with q | ⟨q1, q2, q3⟩
    · exact .inl q
    · exact .inr ⟨q1, Nat.lt_of_lt_of_le q2 hk.size, q3⟩), h.lo, h.gb, h.ob, h.ok, h.bk⟩
theorem grown_kept {v : Value} {U2 U3 : World} (hb : Below W.heap.size W U2) (g3 : U2.grownBy U3 v.ownBlock) : Kept (fun i => v.ownBlock = some i) W U3 := by
  have k3 : Kept (fun i => v.ownBlock = some i) U2 U3 := ⟨g3.os, g3.tape, g3.output, g3.size, fun i hi hn => g3.block i hi (fun q => hn q.symm)⟩
  have k2 : Kept (fun _ => False) W U2 := Kept.of_below hb
  exact (k2.mono (D' := fun i => v.ownBlock = some i) (fun _ q => q.elim)).trans k3
/-- One byte more. -/
theorem DB.addb (h : DB B base W g a0 aP aH aV vb vk bs css d) {U2 U3 : World} (hb : Below W.heap.size W U2) {b : UInt8} {v3 : Value} (m3 : MineR U3 base 5 1 v3 (bs.length + 1) ((bs.map fun b => [.int .u8 (b.toNat : Int)]) ++ [[.int .u8 (b.toNat : Int)]])) (g3 : U2.grownBy U3 vb.ownBlock) (o3 : v3.ownBlock = vb.ownBlock ∨ v3.ownBlock = some U2.heap.size) :
    U3.cell? ⟨g, 4, none⟩ = some vb ∧ U3.frozen? ⟨g, 4, none⟩ = false ∧ DB B base (U3.setCell ⟨g, 4, none⟩ v3) g a0 aP aH aV v3 vk (bs ++ [b]) css d ∧ Below base W (U3.setCell ⟨g, 4, none⟩ v3) ∧ Below base W U3 := by
  have hgl := h.blk.lt
  have s2 := hb.size
  have k1 := grown_kept hb g3
  have b3 : Blk U3 g #[a0, aP, aH, aV, vb, vk] := k1.blk h.blk h.ob
  have ks : Kept (· = g) U3 (U3.setCell ⟨g, 4, none⟩ v3) := Kept.set_ _ _ _ rfl
  have kk : Kept (fun i => vb.ownBlock = some i ∨ i = g) W (U3.setCell ⟨g, 4, none⟩ v3) := (k1.mono (fun i q => .inl q)).trans (ks.mono (fun i q => .inr q))
  have own3 : ∀ i, v3.ownBlock = some i → vb.ownBlock = some i ∨ i = U2.heap.size := fun i hi => by
    rcases o3 with q | q
    · rw [q] at hi; exact .inl hi
    · rw [q] at hi; injection hi with hi; exact .inr hi.symm
  have lk : ∀ i, vk.ownBlock = some i → i < W.heap.size := fun i hi => (h.kids.lt i hi).2
  have lb : ∀ i, vb.ownBlock = some i → base ≤ i ∧ i < W.heap.size := fun i hi => h.byt.lt i hi
  have hob : v3.ownBlock ≠ some g := fun e => by
    rcases own3 _ e with q | q
    · exact h.ob q
    · omega
  refine ⟨b3.cell 4, b3.fz 4, ⟨?_, ?_, ?_, ?_, h.lo, h.gb, hob, h.ok, ?_⟩, ?_, ?_⟩
  · have := b3.set_ 4 v3
    simpa using this
  · have := m3.keptK ks (fun i hi q => hob (q ▸ hi))
    rw [List.length_append, List.length_singleton, List.map_append, List.map_singleton]
    exact this
  · exact h.kids.keptK kk (fun i hi q => by
      rcases q with q | q
      · exact h.bk i q hi
      · exact h.ok (q ▸ hi))
  · refine (h.dis.kept kk (fun i hi q => ?_)).mono (fun i hi _ => ?_)
    · rcases hi with z | ⟨_, _, z1, z2, _⟩
      · rcases q with q | q
        · have := (lb i q).1; have := h.lo; omega
        · have := h.lo; have := h.gb; omega
      · rcases q with q | q
        · exact z2 q
        · exact z1 q
    · rcases hi with q | ⟨q1, q2, q3, q4, q5⟩
      · exact .inl q
      · refine .inr ⟨q1, Nat.lt_of_lt_of_le q2 kk.size, q3, fun e => ?_, q5⟩
        rcases own3 _ e with q | q
        · exact q4 q
        · omega
  · intro i hi e
    rcases own3 _ hi with q | q
    · exact h.bk i q e
    · have := lk i e; omega
  · exact kk.below (Nat.le_trans h.gb (Nat.le_of_lt hgl)) (fun i q => by
      rcases q with q | q
      · exact (lb i q).1
      · rw [q]; exact h.gb)
  · exact k1.below (Nat.le_trans h.gb (Nat.le_of_lt hgl)) (fun i q => (lb i q).1)
/-- One kid more, which lies in new blocks, or in what came in. -/
theorem DB.addk (h : DB B base W g a0 aP aH aV vb vk bs css d) {U1 U2 U3 : World} (h1 : Below W.heap.size W U1) {x : Nn} {k : Fo} {cs : List Value} (hx : DnoS U1 (fun i => i < B ∨ (W.heap.size ≤ i ∧ i < U1.heap.size)) x k cs) (hb : Below U1.heap.size U1 U2) (b : UInt8)
    {v3 : Value} (m3 : MineR U3 base 69 6 v3 (css.length + 1) (css ++ [cs])) (g3 : U2.grownBy U3 vk.ownBlock) (o3 : v3.ownBlock = vk.ownBlock ∨ v3.ownBlock = some U2.heap.size) :
    U3.cell? ⟨g, 5, none⟩ = some vk ∧ U3.frozen? ⟨g, 5, none⟩ = false ∧ DB B base (U3.setCell ⟨g, 5, none⟩ v3) g a0 aP aH aV vb v3 bs (css ++ [cs]) (d.app (.cons b x k .nil)) ∧ Below base W (U3.setCell ⟨g, 5, none⟩ v3) ∧ Below base W U3 := by
  have hgl := h.blk.lt
  have s1 := h1.size
  have s2 := hb.size
  have hb2 : Below W.heap.size W U2 := h1.trans (hb.mono s1)
  have k1 := grown_kept hb2 g3
  have k1' := grown_kept (W := U1) hb g3
  have b3 : Blk U3 g #[a0, aP, aH, aV, vb, vk] := k1.blk h.blk h.ok
  have ks : Kept (· = g) U3 (U3.setCell ⟨g, 5, none⟩ v3) := Kept.set_ _ _ _ rfl
  have kk : Kept (fun i => vk.ownBlock = some i ∨ i = g) W (U3.setCell ⟨g, 5, none⟩ v3) := (k1.mono (fun i q => .inl q)).trans (ks.mono (fun i q => .inr q))
  have kk' : Kept (fun i => vk.ownBlock = some i ∨ i = g) U1 (U3.setCell ⟨g, 5, none⟩ v3) := (k1'.mono (fun i q => .inl q)).trans (ks.mono (fun i q => .inr q))
  have own3 : ∀ i, v3.ownBlock = some i → vk.ownBlock = some i ∨ i = U2.heap.size := fun i hi => by
    rcases o3 with q | q
    · rw [q] at hi; exact .inl hi
    · rw [q] at hi; injection hi with hi; exact .inr hi.symm
  have lk : ∀ i, vk.ownBlock = some i → base ≤ i ∧ i < W.heap.size := fun i hi => h.kids.lt i hi
  have lb : ∀ i, vb.ownBlock = some i → i < W.heap.size := fun i hi => (h.byt.lt i hi).2
  have hok : v3.ownBlock ≠ some g := fun e => by
    rcases own3 _ e with q | q
    · exact h.ok q
    · omega
  refine ⟨b3.cell 5, b3.fz 5, ⟨?_, ?_, ?_, ?_, h.lo, h.gb, h.ob, hok, ?_⟩, ?_, ?_⟩
  · have := b3.set_ 5 v3
    simpa using this
  · exact h.byt.keptK kk (fun i hi q => by
      rcases q with q | q
      · exact h.bk i hi q
      · exact h.ob (q ▸ hi))
  · have := m3.keptK ks (fun i hi q => hok (q ▸ hi))
    rw [List.length_append, List.length_singleton]
    exact this
  · refine Fo.DisS.app ?_ ?_
    · refine (h.dis.kept kk (fun i hi q => ?_)).mono (fun i hi _ => ?_)
      · rcases hi with z | ⟨_, _, z1, _, z2⟩
        · rcases q with q | q
          · have := (lk i q).1; have := h.lo; omega
          · have := h.lo; have := h.gb; omega
        · rcases q with q | q
          · exact z2 q
          · exact z1 q
      · rcases hi with q | ⟨q1, q2, q3, q4, q5⟩
        · exact .inl q
        · refine .inr ⟨q1, Nat.lt_of_lt_of_le q2 kk.size, q3, q4, fun e => ?_⟩
          rcases own3 _ e with q | q
          · exact q5 q
          · omega
    · have hy := (hx.kept kk' (fun i hi q => by
        rcases hi with z | ⟨z, _⟩
        · rcases q with q | q
          · have := (lk i q).1; have := h.lo; omega
          · have := h.lo; have := h.gb; omega
        · rcases q with q | q
          · have := (lk i q).2; omega
          · omega)).mono (S' := DSet B base g vb v3 (U3.setCell ⟨g, 5, none⟩ v3).heap.size) (fun i hi hl => by
        rcases hi with z | ⟨z, z'⟩
        · exact .inl z
        · refine .inr ⟨by have := h.gb; omega, hl, by omega, fun e => by have := lb i e; omega, fun e => ?_⟩
          rcases own3 _ e with q | q
          · have := (lk i q).2; omega
          · omega)
      obtain ⟨dv, ek, e, h2, h3⟩ := hy
      exact ⟨dv, ek, [], by rw [e], h2, h3, rfl⟩
  · intro i hi e
    rcases own3 _ e with q | q
    · exact h.bk i hi q
    · have := lb i hi; omega
  · exact kk.below (Nat.le_trans h.gb (Nat.le_of_lt hgl)) (fun i q => by
      rcases q with q | q
      · exact (lk i q).1
      · rw [q]; exact h.gb)
  · exact k1.below (Nat.le_trans h.gb (Nat.le_of_lt hgl)) (fun i q => (lk i q).1)
/-- The node as it is handed back. -/
theorem DB.done {x : Nn} {A : Option Addr} {n c : Nat} (h : DB B base W g (.int .i64 (kdV x d)) (.slice A n c) (.bool x.has) (.int .u64 x.val) vb vk d.bytes css d) (hp : Byt W W.heap.size A n x.part) (hpB : ∀ i, Pb A x.part i → i < B) (hnc : n ≤ c) {lo : Nat} (hlo : lo ≤ base) :
    DnoS W (fun i => i < B ∨ (lo ≤ i ∧ i < W.heap.size)) x d [.int .i64 (kdV x d), .slice A n c, .bool x.has, .int .u64 x.val, vb, vk] := by
  obtain ⟨Ab, cb, rfl, hb1⟩ := h.byt.slice
  obtain ⟨Ak, ck, rfl, hk1⟩ := h.kids.slice
  refine ⟨⟨A, n, c, Ab, d.bytes.length, cb, Ak, css.length, ck⟩, css, rfl, ⟨⟨hp, hnc, h.byt.byt1, hb1, h.kids.rws, hk1⟩, fun i hi => .inl (hpB i hi), fun i hi => .inr ?_, fun ad e hn => .inr ?_⟩, h.dis.mono (fun i hi hl => ?_)⟩
  · obtain ⟨a, e, e2⟩ := hi.2
    have := h.byt.lt i (by rw [show Ab = some a from e, ← e2]; rfl)
    omega
  · have := h.kids.lt ad.block (by rw [show Ak = some ad from e]; rfl)
    omega
  · rcases hi with q | ⟨q1, q2, _⟩
    · exact .inl q
    · exact .inr ⟨by omega, q2⟩
end
end Go.Proofs.YtajpipaooaemdaaGreatDoor

namespace Go.Proofs.YtajpipaooaemdaaGreatDoor
open Go.RowKit

theorem add_zero' (ad : Addr) : ad.add 0 = ad := by simp [Addr.add]
set_option maxRecDepth 100000 in
theorem info_node : (Tryz.prog.info? 69).map (fun i => (i.zero, i.size, i.bytes)) = some (some (.agg #[.int .i64 0, .slice none 0 0, .bool false, .int .u64 0, .slice none 0 0, .slice none 0 0]), 6, 96) := by kernel_rfl
set_option maxRecDepth 100000 in
theorem size_node : (Tryz.prog.info? 69).map (·.size) = some 6 := by kernel_rfl
set_option maxRecDepth 100000 in
theorem size_kpair : (Tryz.prog.info? 53).map (·.size) = some 2 := by kernel_rfl
set_option maxRecDepth 100000 in
theorem info_u8r : (Tryz.prog.info? 5).map (fun i => (i.zero, i.size, i.bytes)) = some (some (.int .u8 0), 1, 1) := by kernel_rfl
set_option maxRecDepth 100000 in
/-- A node is handed back out of its own block. -/
theorem node_ret (fn : Func) {p : Tmp} (hf : fn.results = #[.cell p 69]) (tmps : Array Value) {w : World} {g : Nat} {cs : List Value} (h : w.rangeAt g 0 cs) (hl : cs.length = 6) (hp : tmps.getD p undef = .pointer (some ⟨g, 0, none⟩)) :
    (results fn tmps).run Tryz.prog w = .ok (.agg cs.toArray) w := by
  rw [results_cell1 hf, hp]
  have := run_loadVar_mid (P := Tryz.prog) w g 0 69 cs _ h Tryz.underlying69 rfl (by rw [hl]; exact size_node)
  simp [asAddr, Result.andThen, this]
theorem node_six {x : Nn} {k : Fo} {cs : List Value} {w : World} {S : Nat → Prop} (h : DnoS w S x k cs) : cs.length = 6 ∧ cs.toArray.all (·.oneCell') = true := by
  obtain ⟨d, ek, rfl, _⟩ := h
  refine ⟨rfl, all_oneCell_toArray (fun v hv => ?_)⟩
  simp [Dv.cells] at hv
  rcases hv with rfl | rfl | rfl | rfl | rfl | rfl <;> rfl
/-- One struct laid over another one. -/
theorem over_six {w : World} {g : Nat} {l cs : List Value} (h : Lst w g l) (hl : l.length = 6) (hc : cs.length = 6) : Lst (w.setCells g 0 cs) g cs := by
  have := Lst.setCells h 0 cs (by rw [hc, hl]; exact Nat.le_refl _)
  have e : spl l 0 cs = cs := by
    unfold spl
    rw [hc, List.drop_of_length_le (by omega)]
    simp
  rw [e] at this
  exact this
theorem byt_nil (w : World) (B : Nat) : Byt w B none 0 [] := ⟨rfl, by unfold maxLen; omega, fun h => absurd h (by omega)⟩
theorem minE {m e1 : Nat} {p0 z : List UInt8} {ks : List (List UInt8)} (h1 : ∀ u ∈ ks, e1 ≤ lcp p0 u) (h2 : lcp p0 z = e1) (h3 : m ≤ lcp p0 z) (h4 : m = p0.length ∨ ∃ u ∈ ks, m = lcp p0 u) : m = e1 := by
  rcases h4 with h | ⟨u, hu, h⟩
  · have := lcp_le_left p0 z
    omega
  · have := h1 u hu
    omega

set_option maxRecDepth 100000 in
set_option maxHeartbeats 1000000 in
theorem rshared_any (A : Option Addr) (n c B e1 : Nat) (ps : List PV) (p z : PV) (w : World) (ha : Prs w B A n ps) (hn : 2 ≤ n) (hn2 : n ≤ 1000) (h0 : ps[0]? = some p) (hz : ps[n - 1]? = some z) (hp : p.key.length ≤ 1000000) (hl : ∀ u ∈ ps, e1 ≤ lcp p.key u.key) (he : lcp p.key z.key = e1) :
    Calls Tryz.prog 78 #[.slice A n c] w fun e w' => e = .returned (.int .i64 (e1 : Int)) ∧ Still w w' := by
  obtain ⟨ad, p', rfl, _, q1, c1, _, b1⟩ := ha.at_ (show 0 < n by omega)
  rw [h0] at q1
  injection q1 with q1
  subst q1
  rw [Nat.zero_mul, add_zero'] at c1
  have HA := Lib.hid ha
  have H0 := Lib.hid h0
  have HZ := Lib.hid hz
  have HLc := Lib.hid hl
  have HE := Lib.hid he
  have HB1 := Lib.hid b1
  have hpn : p.n = p.key.length := b1.1.symm
  have hp9 : p.n ≤ 1000000 := by omega
  have HPN := Lib.hid hpn
  clear ha h0 hz hl he b1 hpn hp
  go_enter Tryz.func78, Tryz.ntmps78
  go_wp2
  go_loopw [3, 4] (fun mv i wr => ∃ k m : Nat, 1 ≤ k ∧ k ≤ n ∧ i = .int .i64 k ∧ mv = .int .i64 m ∧ m ≤ 1000000 ∧ Hid ((∀ j u, 1 ≤ j → j < k → ps[j]? = some u → m ≤ lcp p.key u.key) ∧ (m = p.key.length ∨ ∃ u ∈ ps.map PV.key, m = lcp p.key u)) ∧ Still w wr) (fun _ i _ => n - (intOf i).toNat)
  case atStart => exact ⟨1, p.n, by omega, by omega, rfl, rfl, hp9, Lib.hid ⟨fun j u h1 h2 => by omega, .inl HPN.out⟩, Still.refl _⟩
  case round =>
    obtain ⟨k, m, hk1, hk, rfl, rfl, hm, HF, q, rfl⟩ := hrel
    by_cases h1 : k < n
    · obtain ⟨_, u, e0, _, e2, d1, _, b2⟩ := HA.out.at_ h1
      injection e0 with e0
      subst e0
      have HC := Lib.hid (fun t => rcommon_any p.A u.A p.n u.n p.c u.c B p.key u.key (w.drewN t) (HB1.out.drewN t) (b2.drewN t))
      obtain ⟨lc, hlc⟩ : ∃ l, lcp p.key u.key = l := ⟨_, rfl⟩
      rw [hlc] at HC
      have hle : lc ≤ 1000000 := by rw [← hlc]; have := lcp_le_left p.key u.key; have := HPN.out; omega
      have HF1 := Lib.hid (show ∀ t : Nat, t ≤ m → t ≤ lc → (t = m ∨ t = lc) → (∀ j u, 1 ≤ j → j < k + 1 → ps[j]? = some u → t ≤ lcp p.key u.key) ∧ (t = p.key.length ∨ ∃ u ∈ ps.map PV.key, t = lcp p.key u) from fun t t1 t2 t3 => ⟨fun j v j1 j2 hv => by
        rcases Nat.lt_or_ge j k with h | h
        · have := HF.out.1 j v j1 h hv; omega
        · have : j = k := by omega
          subst this
          rw [e2] at hv
          injection hv with hv
          subst hv
          omega, by
        rcases t3 with rfl | rfl
        · exact HF.out.2
        · exact .inr ⟨u.key, List.mem_map.2 ⟨u, List.mem_of_getElem? e2, rfl⟩, hlc.symm⟩⟩)
      have i0 : (0 : Int) ≤ (k : Int) := by omega
      have i3 : (k : Int) < (n : Int) := by omega
      have i4 : (0 : Int) < (n : Int) := by omega
      have c1' : w.cell? (ad.add 0) = some (.slice p.A p.n p.c) := by rw [add_zero']; exact c1
      clear e2 b2 hlc
      by_cases hmd : m ≤ lc
      · have hmx3 : min (m : Int) (lc : Int) = (m : Int) := by omega
        have HF2 := Lib.hid (HF1.out m (Nat.le_refl _) hmd (.inl rfl))
        go_wp2_with fail
        go_quiet ((go_at_call 45; exact quiet_st2 (HC.out _)))
        go_wp2
        exact ⟨⟨k + 1, m, by omega, by omega, by go_num, by go_num, hm, HF2, (by repeat (first | exact Still.refl _ | apply Still.step))⟩, by simp [intOf]; omega⟩
      · have hmx3 : min (m : Int) (lc : Int) = (lc : Int) := by omega
        have HF2 := Lib.hid (HF1.out lc (by omega) (Nat.le_refl _) (.inr rfl))
        go_wp2_with fail
        go_quiet ((go_at_call 45; exact quiet_st2 (HC.out _)))
        go_wp2
        exact ⟨⟨k + 1, lc, by omega, by omega, by go_num, by go_num, hle, HF2, (by repeat (first | exact Still.refl _ | apply Still.step))⟩, by simp [intOf]; omega⟩
    · obtain rfl : k = n := by omega
      have hme : m = e1 := minE (ks := ps.map PV.key) (z := z.key) (fun u hu => by obtain ⟨v, hv, rfl⟩ := List.mem_map.1 hu; exact HLc.out v hv) HE.out (HF.out.1 (k - 1) z (by omega) (by omega) HZ.out) HF.out.2
      have HME := Lib.hid hme
      clear hme
      go_wp2
      go_ret
      exact ⟨by rw [HME.out]; rfl, (by repeat (first | exact Still.refl _ | apply Still.step))⟩
theorem ends_lcp {q : Nat} {ps : List PV} {p z : PV} (h1 : ps[0]? = some p) (h2 : ps[ps.length - 1]? = some z) (hl : 2 ≤ ps.length) {E : Nat} (hE : lcp (p.key.drop q) (z.key.drop q) = E) (hr : Rise (rel q ps)) : ∀ u ∈ ps, E ≤ lcp (p.key.drop q) (u.key.drop q) := by
  match ps, hl with
  | p' :: u :: r, _ =>
    simp only [List.getElem?_cons_zero, Option.some.injEq] at h1
    subst h1
    rw [← List.getLast?_eq_getElem?, List.getLast?_cons_cons, List.getLast?_eq_some_getLast (by simp)] at h2
    injection h2 with h2
    have hz : ((rel q (u :: r)).getLast (by simp [rel])).1 = z.key.drop q := by
      unfold rel
      rw [List.getLast_map, h2]
    have h3 := rise_ends (p := (p'.key.drop q, p'.val)) (q := (u.key.drop q, u.val)) (r := rel q r) hr
    intro v hv
    rcases List.mem_cons.1 hv with rfl | hv
    · have h5 := lcp_le_left (v.key.drop q) (z.key.drop q)
      rw [hE] at h5
      rw [lcp_me]
      exact h5
    · have := (h3 (v.key.drop q, v.val) (show (v.key.drop q, v.val) ∈ rel q (u :: r) from List.mem_map.2 ⟨v, hv, rfl⟩)).1
      rw [show (((u.key.drop q, u.val) :: rel q r).getLast (by simp)).1 = z.key.drop q from hz] at this
      rw [← hE]
      exact this
theorem lcp_pre {q : Nat} {pre a b : List UInt8} (hq : pre.length = q) (ha : a.take q = pre) (hb : b.take q = pre) : lcp a b = q + lcp (a.drop q) (b.drop q) := by
  have h1 : a = pre ++ a.drop q := by conv => lhs; rw [← List.take_append_drop q a, ha]
  have h2 : b = pre ++ b.drop q := by conv => lhs; rw [← List.take_append_drop q b, hb]
  conv => lhs; rw [h1, h2]
  rw [lcp_app, hq]
theorem take_more {a p : List UInt8} {e : Nat} {b : UInt8} (h : a.take e = p.take e) (hb : a[e]? = some b) : a.take (e + 1) = p.take e ++ [b] := by
  rw [List.take_add_one, h, hb]; rfl
theorem lcp_take_eq {a b : List UInt8} {e : Nat} (h : e ≤ lcp a b) : b.take e = a.take e := by
  have h1 := lcp_take (p := a) (u := b) h
  have h2 := lcp_le_left a b
  rw [h1, List.take_append_of_le_length (by rw [List.length_take]; omega), List.take_take, Nat.min_self]
/-- What build answers. -/
def RBPost (B : Nat) (w : World) (T : Nn × Fo) (e : Ending) (w' : World) : Prop := ∃ cs, e = .returned (.agg cs.toArray) ∧ DnoS w' (fun i => i < B ∨ (w.heap.size ≤ i ∧ i < w'.heap.size)) T.1 T.2 cs ∧ Below w.heap.size w w'
def RBOk (f : Nat) : Prop := ∀ (q n c B : Nat) (A : Option Addr) (ps : List PV) (w : World), Prs w B A n ps → Kps w B ps → B ≤ w.heap.size → n ≤ 1000 → n ≤ c → 0 < n → (∀ p ∈ ps, q ≤ p.key.length ∧ p.key.length ≤ 1000000 ∧ p.key.length - q < f) → Rise (rel q ps) →
  (∃ pre : List UInt8, pre.length = q ∧ ∀ p ∈ ps, p.key.take q = pre) → Calls Tryz.prog 58 #[.slice A n c, .int .i64 (q : Int)] w (RBPost B w (cT 1 f (rel q ps)))
theorem bytes_few {o : Int} {d : Fo} (h : d.wf o) : d.len ≤ 256 := by
  rw [← Fo.bytes_len]
  rw [← count_range (P := fun n => decide (UInt8.ofNat n ∈ d.bytes)) (Fo.bytes_rise h) (fun n _ => by simp)]
  exact Nat.le_trans List.countP_le_length (by simp)
theorem below_over {w V : World} {g : Nat} (hb : Below g w V) (vs : List Value) (hs : g ≤ V.heap.size) : Below g w (V.setCells g 0 vs) :=
  hb.trans ((Kept.setCells (fun k => k = g) V g 0 vs rfl).below hs (fun q hq => by omega))
/-- One that is laid over the answer's variable, and handed back. -/
theorem hand_over {lo B g0 : Nat} {w V : World} {x : Nn} {k : Fo} {cs zs : List Value} (h : DnoS V (fun i => i < B ∨ (lo ≤ i ∧ i < V.heap.size)) x k cs) (hz : Lst V g0 zs) (hzl : zs.length = 6) (hB : B ≤ g0) (hl : g0 < lo) (hb : Below g0 w V) :
    (V.setCells g0 0 cs).rangeAt g0 0 cs ∧ DnoS (V.setCells g0 0 cs) (fun i => i < B ∨ (g0 ≤ i ∧ i < (V.setCells g0 0 cs).heap.size)) x k cs ∧ Below g0 w (V.setCells g0 0 cs) := by
  have hk := Kept.setCells (fun k => k = g0) V g0 0 cs rfl
  have hlt := Blk.lt hz
  refine ⟨Lst.all (over_six hz hzl (node_six h).1), (h.kept hk (fun i hi e => by
    rcases hi with q | ⟨q, _⟩ <;> omega)).mono (fun i hi hl2 => ?_), below_over hb cs (by omega)⟩
  rcases hi with q | ⟨q, _⟩
  · exact .inl q
  · exact .inr ⟨by omega, hl2⟩

set_option maxRecDepth 100000 in
set_option maxHeartbeats 4000000 in
theorem rbuild_step {f : Nat} (ih : RBOk f) : RBOk (f + 1) := by
  intro q n c B A ps w ha hkp hB hn hnc h0 hk hr hpre
  obtain ⟨ad, p, rfl, _, e1, c1, c2, b1⟩ := ha.at_ h0
  rw [Nat.zero_mul, add_zero'] at c1
  rw [Nat.zero_mul, Nat.zero_add] at c2
  have hpn : p.n = p.key.length := b1.1.symm
  have hpm : p ∈ ps := List.mem_of_getElem? e1
  have hpr : p.n ≤ p.c := (hkp p hpm).2
  have hpk := hk p hpm
  have hqp : q ≤ p.n := by omega
  have hp6 : p.n ≤ 1000000 := by omega
  obtain ⟨W0, hW0⟩ : ∃ V, w.alloc (.cells #[.int .i64 0, .slice none 0 0, .bool false, .int .u64 0, .slice none 0 0, .slice none 0 0] 69) = V := ⟨_, rfl⟩
  have bW0 : Below w.heap.size w W0 := by rw [← hW0]; exact (Below.refl _ _).alloc (Nat.le_refl _) _
  have sW0 : W0.heap.size = w.heap.size + 1 := by rw [← hW0]; simp
  have zW0 : Lst W0 w.heap.size [.int .i64 0, .slice none 0 0, .bool false, .int .u64 0, .slice none 0 0, .slice none 0 0] := by rw [← hW0]; exact Blk.new w _ _
  have HA := Lib.hid (fun V (h : Below w.heap.size w V) => ha.below (h.mono hB))
  have HKP := Lib.hid (fun V (h : Below w.heap.size w V) => hkp.below (h.mono hB))
  have C12 := Lib.hid (fun V (h : Below w.heap.size w V) => show V.cell? ad = some (.slice p.A p.n p.c) ∧ V.cell? ⟨ad.block, ad.off + 1, none⟩ = some (.int .u64 p.val) from ⟨(h.cell (lt_cell c1)).trans c1, (h.cell (lt_cell c2)).trans c2⟩)
  have BP := Lib.hid (fun V (h : Below w.heap.size w V) => b1.below (h.mono hB))
  have HPB := Lib.hid (show ∀ i, Pb p.A p.key i → i < B from fun i hi => by have q1 := b1; rw [hpn] at q1; exact q1.ltPb hi)
  have HK := Lib.hid hk
  have HR := Lib.hid hr
  have HPRE := Lib.hid hpre
  have HE := Lib.hid e1
  have HLN := Lib.hid (show ps.length = n from ha.1)
  have BW := Lib.hid bW0
  have ZW := Lib.hid zW0
  have HPN := Lib.hid hpn
  have sp := fun W' => slc_from (P := Tryz.prog) Tryz.underlying23 size_u8 p.A p.n p.c q hqp W'
  by_cases hn1 : n = 1
  · subst hn1
    have hps : ps = [p] := by
      have h1 := HLN.out
      match ps, h1 with
      | [a], _ => simp at e1; rw [e1]
    have HT := Lib.hid (show cT 1 (f + 1) (rel q ps) = (⟨true, 1, p.key.drop q, p.val, true⟩, .nil) by rw [hps]; exact cT_one 1 (f + 1) q p)
    have hbd : Byt W0 W0.heap.size (cutA p.A q p.c 1) (p.n - q) (p.key.drop q) := by
      have h1 := ((BP.out W0 bW0).cut_ q p.n hqp (Nat.le_refl _) hpr).more (Nat.le_trans hB bW0.size)
      rwa [List.take_of_length_le (by omega)] at h1
    have hbp : ∀ i, Pb (cutA p.A q p.c 1) (p.key.drop q) i → i < B := fun i hi => HPB.out i ((show (p.key.drop q) = (p.key.take p.n).drop q by rw [List.take_of_length_le (by omega)]) ▸ hi : Pb (cutA p.A q p.c 1) ((p.key.take p.n).drop q) i).cut_
    obtain ⟨Ap, hAp⟩ : ∃ X, cutA p.A q p.c 1 = X := ⟨_, rfl⟩
    obtain ⟨np, hnp⟩ : ∃ X, p.n - q = X := ⟨_, rfl⟩
    obtain ⟨cp, hcp⟩ : ∃ X, p.c - q = X := ⟨_, rfl⟩
    have hncp : np ≤ cp := by omega
    rw [hAp, hnp, hcp] at sp
    rw [hAp, hnp] at hbd
    rw [hAp] at hbp
    have HDN := Lib.hid (show DnoS W0 (fun i => i < B ∨ (w.heap.size + 1 ≤ i ∧ i < W0.heap.size)) ⟨true, 1, p.key.drop q, p.val, true⟩ .nil [.int .i64 1, .slice Ap np cp, .bool true, .int .u64 p.val, .slice none 0 0, .slice none 0 0] from
      ⟨⟨Ap, np, cp, none, 0, 0, none, 0, 0⟩, [], rfl, ⟨⟨hbd, hncp, byt_nil _ _, Nat.le_refl _, Rws.none_, Nat.le_refl _⟩, fun i hi => .inl (hbp i hi), fun i hi => absurd rfl hi.1, fun ad' e => by cases e⟩, rfl⟩)
    have HDN2 := Lib.hid (show DnoS W0.drew (fun i => i < B ∨ (w.heap.size + 1 ≤ i ∧ i < W0.drew.heap.size)) ⟨true, 1, p.key.drop q, p.val, true⟩ .nil [.int .i64 1, .slice Ap np cp, .bool true, .int .u64 p.val, .slice none 0 0, .slice none 0 0] from HDN.out.kept (D := fun _ => False) (Kept.refl _ _).drew (fun _ _ z => z))
    obtain ⟨h1, h2, h3⟩ := hand_over HDN2.out (show Lst W0.drew w.heap.size _ from zW0) rfl hB (by omega) bW0.drew
    have HN6 := Lib.hid (node_six HDN2.out).2
    have HTH := Lib.hid (Lst.there (show Lst W0.drew w.heap.size _ from zW0) (o := 0) (n := 6) (Nat.le_refl _))
    have H1 := Lib.hid h1
    have H2 := Lib.hid h2
    have H3 := Lib.hid h3
    have SS := Lib.hid (C12.out W0.drew bW0.drew)
    have SE := Lib.hid (C12.out _ h3)
    clear ha hkp e1 c1 c2 b1 hpn hpm hpr hpk hk hr hpre hps hbd hbp hAp hnp hcp bW0 zW0 h1 h2 h3 HDN
    go_enter Tryz.func58, Tryz.ntmps58
    go_wp2_with fail
    refine wp_region_held_drew (S := (fun V => V.cell? ad = some (.slice p.A p.n p.c) ∧ V.cell? ⟨ad.block, ad.off + 1, none⟩ = some (.int .u64 p.val))) (by kernel_rfl) SS.out (fun hHeld => ?_)
    refine wpAnyH_take (i := 0) (oi := { dst := some 16, op := Op.move (Operand.tmp 0), type := 22, pos := "ref.go:60", after := #[], guard := none }) (v := ?v1) rfl (by kernel_rfl) (by kernel_rfl) (by kernel_rfl) (fun _ _ _ h => h) (Or.inl ⟨by rfl, ?hy1⟩) hHeld ?rest1
    case hy1 => (intro w' hSw; (try dsimp only at hSw); go_simp; (try with_reducible rfl))
    try simp only [Act.put, List.setIfInBounds_toArray, List.set_cons_zero, List.set_cons_succ]
    refine wpAnyH_take (i := 1) (oi := { dst := some 17, op := Op.indexAddr 22 (Operand.tmp 16) (Operand.const (Value.int IntKind.i64 0)), type := 0, pos := "ref.go:60", after := #[{ on := 0, ground := Ground.data }], guard := none }) (v := ?v2) rfl (by kernel_rfl) (by kernel_rfl) (by kernel_rfl) (fun _ _ _ h => h) (Or.inl ⟨by rfl, ?hy2⟩) hHeld ?rest2
    case hy2 => (intro w' hSw; (try dsimp only at hSw); go_simp; (try with_reducible rfl))
    try simp only [Act.put, List.setIfInBounds_toArray, List.set_cons_zero, List.set_cons_succ]
    refine wpAnyH_take (i := 2) (oi := { dst := some 18, op := Op.fieldAddr 53 (Operand.tmp 17) 0, type := 0, pos := "ref.go:60", after := #[{ on := 1, ground := Ground.data }], guard := none }) (v := ?v3) rfl (by kernel_rfl) (by kernel_rfl) (by kernel_rfl) (fun _ _ _ h => h) (Or.inl ⟨by rfl, ?hy3⟩) hHeld ?rest3
    case hy3 => (intro w' hSw; (try dsimp only at hSw); go_simp; (try with_reducible rfl))
    try simp only [Act.put, List.setIfInBounds_toArray, List.set_cons_zero, List.set_cons_succ]
    refine wpAnyH_take (i := 3) (oi := { dst := some 19, op := Op.load 23 (Operand.tmp 18), type := 23, pos := "ref.go:60", after := #[{ on := 2, ground := Ground.data }], guard := none }) (v := ?v4) rfl (by kernel_rfl) (by kernel_rfl) (by kernel_rfl) (fun _ _ _ h => h) (Or.inl ⟨by rfl, ?hy4⟩) hHeld ?rest4
    case hy4 => (intro w' hSw; (try dsimp only at hSw); go_simp; (try with_reducible rfl))
    try simp only [Act.put, List.setIfInBounds_toArray, List.set_cons_zero, List.set_cons_succ]
    refine wpAnyH_take (i := 4) (oi := { dst := some 20, op := Op.move (Operand.tmp 1), type := 3, pos := "ref.go:60", after := #[], guard := none }) (v := ?v5) rfl (by kernel_rfl) (by kernel_rfl) (by kernel_rfl) (fun _ _ _ h => h) (Or.inl ⟨by rfl, ?hy5⟩) hHeld ?rest5
    case hy5 => (intro w' hSw; (try dsimp only at hSw); go_simp; (try with_reducible rfl))
    try simp only [Act.put, List.setIfInBounds_toArray, List.set_cons_zero, List.set_cons_succ]
    refine wpAnyH_take (i := 5) (oi := { dst := some 21, op := Op.slice 23 (Operand.tmp 19) (some (Operand.tmp 20)) none none, type := 23, pos := "ref.go:60", after := #[{ on := 3, ground := Ground.data }, { on := 4, ground := Ground.data }], guard := none }) (v := ?v6) rfl (by kernel_rfl) (by kernel_rfl) (by kernel_rfl) (fun _ _ _ h => h) (Or.inl ⟨by rfl, ?hy6⟩) hHeld ?rest6
    case hy6 => (intro w' hSw; (try dsimp only at hSw); go_simp; (try with_reducible rfl))
    try simp only [Act.put, List.setIfInBounds_toArray, List.set_cons_zero, List.set_cons_succ]
    refine wpAnyH_take (i := 6) (oi := { dst := some 22, op := Op.move (Operand.tmp 0), type := 22, pos := "ref.go:60", after := #[], guard := none }) (v := ?v7) rfl (by kernel_rfl) (by kernel_rfl) (by kernel_rfl) (fun _ _ _ h => h) (Or.inl ⟨by rfl, ?hy7⟩) hHeld ?rest7
    case hy7 => (intro w' hSw; (try dsimp only at hSw); go_simp; (try with_reducible rfl))
    try simp only [Act.put, List.setIfInBounds_toArray, List.set_cons_zero, List.set_cons_succ]
    refine wpAnyH_take (i := 7) (oi := { dst := some 23, op := Op.indexAddr 22 (Operand.tmp 22) (Operand.const (Value.int IntKind.i64 0)), type := 0, pos := "ref.go:60", after := #[{ on := 6, ground := Ground.data }], guard := none }) (v := ?v8) rfl (by kernel_rfl) (by kernel_rfl) (by kernel_rfl) (fun _ _ _ h => h) (Or.inl ⟨by rfl, ?hy8⟩) hHeld ?rest8
    case hy8 => (intro w' hSw; (try dsimp only at hSw); go_simp; (try with_reducible rfl))
    try simp only [Act.put, List.setIfInBounds_toArray, List.set_cons_zero, List.set_cons_succ]
    refine wpAnyH_take (i := 8) (oi := { dst := some 24, op := Op.fieldAddr 53 (Operand.tmp 23) 1, type := 0, pos := "ref.go:60", after := #[{ on := 7, ground := Ground.data }], guard := none }) (v := ?v9) rfl (by kernel_rfl) (by kernel_rfl) (by kernel_rfl) (fun _ _ _ h => h) (Or.inl ⟨by rfl, ?hy9⟩) hHeld ?rest9
    case hy9 => (intro w' hSw; (try dsimp only at hSw); go_simp; (try with_reducible rfl))
    try simp only [Act.put, List.setIfInBounds_toArray, List.set_cons_zero, List.set_cons_succ]
    refine wpAnyH_take (i := 9) (oi := { dst := some 25, op := Op.load 24 (Operand.tmp 24), type := 24, pos := "ref.go:60", after := #[{ on := 8, ground := Ground.data }], guard := none }) (v := ?v10) rfl (by kernel_rfl) (by kernel_rfl) (by kernel_rfl) (fun _ _ _ h => h) (Or.inl ⟨by rfl, ?hy10⟩) hHeld ?rest10
    case hy10 => (intro w' hSw; (try dsimp only at hSw); go_simp; (try with_reducible rfl))
    try simp only [Act.put, List.setIfInBounds_toArray, List.set_cons_zero, List.set_cons_succ]
    refine wpAnyH_take (i := 10) (oi := { dst := some 26, op := Op.build 69 #[(0, Operand.const (Value.int IntKind.i64 1)), (1, Operand.tmp 21), (2, Operand.const (Value.bool true)), (3, Operand.tmp 25)], type := 69, pos := "ref.go:60", after := #[{ on := 5, ground := Ground.data }, { on := 9, ground := Ground.data }], guard := none }) (v := ?v11) rfl (by kernel_rfl) (by kernel_rfl) (by kernel_rfl) (fun _ _ _ h => h) (Or.inl ⟨by rfl, ?hy11⟩) hHeld ?rest11
    case hy11 => (intro w' hSw; (try dsimp only at hSw); go_simp; (try with_reducible rfl))
    try simp only [Act.put, List.setIfInBounds_toArray, List.set_cons_zero, List.set_cons_succ]
    refine wpAnyH_ready (rs := [11]) (by kernel_rfl) (by simp) (AllReadyH.cons (o := { dst := none, op := Op.store 69 (Operand.tmp 4) (Operand.tmp 26), type := 0, pos := "ref.go:60", after := #[{ on := 10, ground := Ground.data }, { on := 0, ground := Ground.phase }, { on := 1, ground := Ground.phase }, { on := 2, ground := Ground.phase }, { on := 3, ground := Ground.phase }, { on := 4, ground := Ground.phase }, { on := 5, ground := Ground.phase }, { on := 6, ground := Ground.phase }, { on := 7, ground := Ground.phase }, { on := 8, ground := Ground.phase }, { on := 9, ground := Ground.phase }, { on := 10, ground := Ground.phase }], guard := none }) rfl (fun K hK => ?_) AllReadyH.nil)
    rw [if_pos (by rfl)]
    refine wp_store_mid 69 (.tmp 4) (.tmp 26) (by rfl) w.heap.size 0 ([.int .i64 1, .slice Ap np cp, .bool true, .int .u64 p.val, .slice none 0 0, .slice none 0 0] : List Value).toArray (by rfl) (by rfl) HTH.out size_node HN6.out ?_
    simp only [Act.put]
    refine hK.out _ _ SE.out (fun hHeld' => ?_)
    clear hK K hHeld
    have hHeld := hHeld'
    clear hHeld'
    try simp only [Act.put, List.setIfInBounds_toArray, List.set_cons_zero, List.set_cons_succ]
    refine wpAnyH_done (by kernel_rfl) ?_ _
    go_wp2_with fail
    (try simp only [Exit.inBlock, Exit.then])
    refine bodyPost_ret (node_ret Tryz.f58 rfl _ H1.out rfl (by rfl)) (by rfl) ?_
    exact ⟨_, rfl, by rw [HT.out]; exact H2.out, H3.out⟩
  · have hl2 : 2 ≤ n := by omega
    obtain ⟨z, hz⟩ : ∃ z, ps[n - 1]? = some z := ⟨ps[n - 1]'(by have := HLN.out; omega), List.getElem?_eq_getElem _⟩
    obtain ⟨E, hE⟩ : ∃ E, lcp (p.key.drop q) (z.key.drop q) = E := ⟨_, rfl⟩
    have hzl : ps[ps.length - 1]? = some z := by rw [HLN.out]; exact hz
    have hl2' : 2 ≤ ps.length := by rw [HLN.out]; exact hl2
    have hT := cT_more (o := 1) (f := f) e1 hzl hl2' hE
    obtain ⟨hends, hrE⟩ := ends_rel e1 hzl hl2' hE hr
    have hel := ends_lcp e1 hzl hl2' hE hr
    obtain ⟨ee, hee⟩ : ∃ e, q + E = e := ⟨_, rfl⟩
    rw [hee] at hends hrE hT
    obtain ⟨pre, hpl, hpa⟩ := hpre
    have hall : ∀ u ∈ ps, ee ≤ lcp p.key u.key := fun u hu => by rw [lcp_pre hpl (hpa p hpm) (hpa u hu), ← hee]; have := hel u hu; omega
    have hlz : lcp p.key z.key = ee := by rw [lcp_pre hpl (hpa p hpm) (hpa z (List.mem_of_getElem? hz)), hE, hee]
    have hEp : ee ≤ p.key.length := by have := hall p hpm; rwa [lcp_me] at this
    have HSH := Lib.hid (fun V (h : Below w.heap.size w V) => rshared_any (some ad) n c B ee ps p z V (HA.out V h) hl2 hn e1 hz hpk.2.1 hall hlz)
    obtain ⟨Ap, hAp⟩ : ∃ X, cutA p.A q p.c 1 = X := ⟨_, rfl⟩
    obtain ⟨cp, hcp⟩ : ∃ X, p.c - q = X := ⟨_, rfl⟩
    obtain ⟨part, hpart⟩ : ∃ l, (p.key.drop q).take E = l := ⟨_, rfl⟩
    have sm : ∀ W', (Instr.slice 23 (.slice p.A p.n p.c) (some (.int .i64 (q : Int))) (some (.int .i64 (ee : Int))) none).run Tryz.prog W' = .ok (.slice Ap E cp) W' := fun W' => by
      have := slc_mid (P := Tryz.prog) Tryz.underlying23 size_u8 p.A p.n p.c q ee (by omega) (by omega) W'
      rwa [hAp, hcp, show ee - q = E by omega] at this
    have hpe2 : (p.key.take ee).drop q = part := by rw [List.drop_take, show ee - q = E by omega, hpart]
    have HPT := Lib.hid (fun V (h : Below w.heap.size w V) => show Byt V B Ap E part from by
      have h1 := (BP.out V h).cut_ q ee (by omega) (by omega) hpr
      rwa [hAp, hpe2, show ee - q = E by omega] at h1)
    have HPP := Lib.hid (show ∀ i, Pb Ap part i → i < B from fun i hi => HPB.out i (by
      rw [← hpe2, ← hAp] at hi
      exact hi.cut_))
    have HEC : Hid (E ≤ cp) := Lib.hid (by omega)
    obtain ⟨bt, hbt⟩ : ∃ bt : Nat → UInt8, ∀ i u, ps[i]? = some u → ee < u.key.length → u.key[ee]? = some (bt i) := by
      refine ⟨fun i => match ps[i]? with | some u => u.key[ee]?.getD 0 | none => 0, fun i u hi hu => ?_⟩
      simp only [hi]
      rw [List.getElem?_eq_getElem hu]
      rfl
    have hk1 : ∀ i u, 1 ≤ i → ps[i]? = some u → ee < u.key.length := fun i u hi hu => by
      refine hends u (List.mem_iff_getElem?.2 ⟨i - 1, ?_⟩)
      rw [List.getElem?_drop, show 1 + (i - 1) = i by omega]
      exact hu
    rw [hpart] at hT
    have HEE := Lib.hid hee
    have HPS := Lib.hid (show ∀ u ∈ ps, u.key.take ee = p.key.take ee from fun u hu => lcp_take_eq (hall u hu))
    have HT := Lib.hid hT
    have HBT := Lib.hid hbt
    have HRE := Lib.hid hrE
    have HK1 := Lib.hid hk1
    have HE6 := Lib.hid (show ee ≤ 1000000 by omega)
    have HEPL := Lib.hid hEp
    have ewE : IntKind.i64.wrap ((ee : Int) + 1) = ((ee + 1 : Nat) : Int) := by rw [IntKind.wrap_i64]; omega
    have hE6 : ee ≤ 1000000 := HE6.out
    clear ha hkp e1 c1 c2 b1 hpm hpr hpk hk hr hz hE hzl hl2' hT hends hrE hel hee hpa hpl hall hlz hAp hcp hpart hpe2 hbt hk1 bW0 zW0 sp
    by_cases hpe : p.n = ee
    · have HI0 := Lib.hid (show ∀ i u, 1 ≤ i → ps[i]? = some u → ee < u.key.length from HK1.out)
      have HTT := Lib.hid (show cT 1 (f + 1) (rel q ps) = (⟨false, 1, part, p.val, true⟩, mkF (cT 1 f) (grp (rel ee (ps.drop 1)))) by rw [HT.out, if_pos (by have := HEE.out; omega)])
      have hpe' : ((p.n : Int) == (ee : Int)) = true := by rw [beq_iff_eq]; omega
      obtain ⟨vl, hvl⟩ : ∃ v, p.val = v := ⟨_, rfl⟩
      rw [hvl] at HTT C12
      clear hpn hpe hEp HT
      go_enter Tryz.func58, Tryz.ntmps58
      go_wp2_with fail
      (with_reducible refine (HSH.out W0 BW.out).mono ?_)
      rintro e V ⟨rfl, hV⟩
      have c1 := (C12.out V (BW.out.trans (hV.below _))).1
      obtain ⟨g1, hg1⟩ : ∃ g, V.heap.size = g := ⟨_, rfl⟩
      have hg0 : g1 = W0.heap.size := by rw [← hg1]; obtain ⟨t, rfl⟩ := hV; rfl
      have SW0 := Lib.hid sW0
      obtain ⟨W1, hW1⟩ : ∃ X, V.alloc (.cells #[.int .i64 0, .slice Ap E cp, .bool false, .int .u64 0, .slice none 0 0, .slice none 0 0] 69) = X := ⟨_, rfl⟩
      have D1 := Lib.hid (show DB B W0.heap.size W1 g1 (.int .i64 0) (.slice Ap E cp) (.bool false) (.int .u64 0) (.slice none 0 0) (.slice none 0 0) [] [] .nil from DB.start (by rw [← hW1, ← hg1]; exact Blk.new V _ _) (by omega) (by omega))
      have BW1 := Lib.hid (show Below W0.heap.size W0 W1 by rw [← hW1]; exact (hV.below _).alloc (by omega) _)
      have HW1 := Lib.hid hW1
      have HG0 := Lib.hid hg0
      have hBg : B ≤ g1 := by omega
      clear hV hW0 hW1 hg0 sW0
      go_upto_region 7 with fail
      rw [HW1.out]
      have c1 := (C12.out W1 (BW.out.trans (BW1.out.mono BW.out.size))).1
      go_wp2_with fail
      have SS := Lib.hid (fun X (h : Below W0.heap.size W0 X) => (C12.out X (BW.out.trans (h.mono BW.out.size))).2)
      have k0 := D1.out.blk.cell 2
      have z0 := D1.out.blk.fz 2
      have HU := Lib.hid (show ∀ X, X = ((W1.setCell ⟨g1, 2, none⟩ (.bool true)).setCell ⟨g1, 3, none⟩ (.int .u64 vl)).drew → DB B W0.heap.size X g1 (.int .i64 0) (.slice Ap E cp) (.bool true) (.int .u64 vl) (.slice none 0 0) (.slice none 0 0) [] [] .nil ∧ Below W0.heap.size W0 X from fun X hX => by
        have b1 : Blk (W1.setCell ⟨g1, 2, none⟩ (.bool true)) g1 #[.int .i64 0, .slice Ap E cp, .bool true, .int .u64 0, .slice none 0 0, .slice none 0 0] := by simpa using D1.out.blk.set_ 2 (.bool true)
        have b2' : Blk ((W1.setCell ⟨g1, 2, none⟩ (.bool true)).setCell ⟨g1, 3, none⟩ (.int .u64 vl)) g1 #[.int .i64 0, .slice Ap E cp, .bool true, .int .u64 vl, .slice none 0 0, .slice none 0 0] := by simpa using b1.set_ 3 (.int .u64 vl)
        have b2 : Blk ((W1.setCell ⟨g1, 2, none⟩ (.bool true)).setCell ⟨g1, 3, none⟩ (.int .u64 vl)).drew g1 #[.int .i64 0, .slice Ap E cp, .bool true, .int .u64 vl, .slice none 0 0, .slice none 0 0] := b2'
        have kk : Kept (· = g1) W1 X := by
          rw [hX]
          exact ((Kept.set_ (D := (· = g1)) W1 ⟨g1, 2, none⟩ (.bool true) rfl).trans (Kept.set_ (D := (· = g1)) _ ⟨g1, 3, none⟩ (.int .u64 vl) rfl)).drew
        refine ⟨D1.out.turn kk ?_, BW1.out.trans (kk.below BW1.out.size (fun i e => by have := HG0.out; omega))⟩
        rw [hX]
        exact b2)
      have HU2 := Lib.hid (show Below W0.heap.size W0 (W1.setCell ⟨g1, 2, none⟩ (.bool true)).drew from (BW1.out.trans ((Kept.set_ (D := (· = g1)) W1 ⟨g1, 2, none⟩ (.bool true) rfl).below BW1.out.size (fun i e => by have := HG0.out; omega))).drew)
      have HB2 := Lib.hid (show (W1.setCell ⟨g1, 2, none⟩ (.bool true)).drew.cell? ⟨g1, 3, none⟩ = some (.int .u64 0) ∧ (W1.setCell ⟨g1, 2, none⟩ (.bool true)).drew.frozen? ⟨g1, 3, none⟩ = false from by
        have b1 : Blk (W1.setCell ⟨g1, 2, none⟩ (.bool true)) g1 #[.int .i64 0, .slice Ap E cp, .bool true, .int .u64 0, .slice none 0 0, .slice none 0 0] := by simpa using D1.out.blk.set_ 2 (.bool true)
        have b2 : Blk (W1.setCell ⟨g1, 2, none⟩ (.bool true)).drew g1 #[.int .i64 0, .slice Ap E cp, .bool true, .int .u64 0, .slice none 0 0, .slice none 0 0] := b1
        exact ⟨b2.cell 3, b2.fz 3⟩)
      refine wp_region_held_drew (S := (fun X => X.cell? ⟨ad.block, ad.off + 1, none⟩ = some (.int .u64 vl))) (by kernel_rfl) (SS.out _ BW1.out.drew) (fun hHeld => ?_)
      refine wpAnyH_take (i := 0) (oi := { dst := some 44, op := Op.move (Operand.tmp 0), type := 22, pos := "ref.go:66", after := #[{ on := 5, ground := Ground.gcOnly Departure.lateStores }], guard := none }) (v := ?v12) rfl (by kernel_rfl) (by kernel_rfl) (by kernel_rfl) (fun _ _ _ h => h) (Or.inl ⟨by rfl, ?hy12⟩) hHeld ?rest12
      case hy12 => (intro w' hSw; (try dsimp only at hSw); go_simp; (try with_reducible rfl))
      try simp only [Act.put, List.setIfInBounds_toArray, List.set_cons_zero, List.set_cons_succ]
      refine wpAnyH_take (i := 1) (oi := { dst := some 45, op := Op.indexAddr 22 (Operand.tmp 44) (Operand.const (Value.int IntKind.i64 0)), type := 0, pos := "ref.go:66", after := #[{ on := 0, ground := Ground.data }, { on := 5, ground := Ground.gcOnly Departure.lateStores }], guard := none }) (v := ?v13) rfl (by kernel_rfl) (by kernel_rfl) (by kernel_rfl) (fun _ _ _ h => h) (Or.inl ⟨by rfl, ?hy13⟩) hHeld ?rest13
      case hy13 => (intro w' hSw; (try dsimp only at hSw); go_simp; (try with_reducible rfl))
      try simp only [Act.put, List.setIfInBounds_toArray, List.set_cons_zero, List.set_cons_succ]
      refine wpAnyH_take (i := 2) (oi := { dst := some 46, op := Op.fieldAddr 53 (Operand.tmp 45) 1, type := 0, pos := "ref.go:66", after := #[{ on := 1, ground := Ground.data }, { on := 5, ground := Ground.gcOnly Departure.lateStores }], guard := none }) (v := ?v14) rfl (by kernel_rfl) (by kernel_rfl) (by kernel_rfl) (fun _ _ _ h => h) (Or.inl ⟨by rfl, ?hy14⟩) hHeld ?rest14
      case hy14 => (intro w' hSw; (try dsimp only at hSw); go_simp; (try with_reducible rfl))
      try simp only [Act.put, List.setIfInBounds_toArray, List.set_cons_zero, List.set_cons_succ]
      refine wpAnyH_take (i := 3) (oi := { dst := some 47, op := Op.load 24 (Operand.tmp 46), type := 24, pos := "ref.go:66", after := #[{ on := 2, ground := Ground.data }, { on := 5, ground := Ground.gcOnly Departure.lateStores }], guard := none }) (v := ?v15) rfl (by kernel_rfl) (by kernel_rfl) (by kernel_rfl) (fun _ _ _ h => h) (Or.inl ⟨by rfl, ?hy15⟩) hHeld ?rest15
      case hy15 => (intro w' hSw; (try dsimp only at hSw); go_simp; (try with_reducible rfl))
      try simp only [Act.put, List.setIfInBounds_toArray, List.set_cons_zero, List.set_cons_succ]
      refine wpAnyH_take (i := 4) (oi := { dst := some 48, op := Op.fieldAddr 69 (Operand.tmp 6) 2, type := 0, pos := "ref.go:66", after := #[{ on := 0, ground := Ground.textOnly Departure.lateStores }, { on := 1, ground := Ground.textOnly Departure.lateStores }, { on := 2, ground := Ground.textOnly Departure.lateStores }, { on := 3, ground := Ground.textOnly Departure.lateStores }], guard := none }) (v := ?v16) rfl (by kernel_rfl) (by kernel_rfl) (by kernel_rfl) (fun _ _ _ h => h) (Or.inl ⟨by rfl, ?hy16⟩) hHeld ?rest16
      case hy16 => (intro w' hSw; (try dsimp only at hSw); go_simp; (try with_reducible rfl))
      try simp only [Act.put, List.setIfInBounds_toArray, List.set_cons_zero, List.set_cons_succ]
      refine wpAnyH_ready (rs := [5]) (by kernel_rfl) (by simp) (AllReadyH.cons (o := { dst := none, op := Op.store 4 (Operand.tmp 48) (Operand.const (Value.bool true)), type := 0, pos := "ref.go:66", after := #[{ on := 4, ground := Ground.data }, { on := 0, ground := Ground.textOnly Departure.lateStores }, { on := 1, ground := Ground.textOnly Departure.lateStores }, { on := 2, ground := Ground.textOnly Departure.lateStores }, { on := 3, ground := Ground.textOnly Departure.lateStores }], guard := none }) rfl (fun K hK => ?_) AllReadyH.nil)
      go_simp
      refine hK.out _ _ (SS.out _ HU2.out) (fun hHeld' => ?_)
      clear hK K hHeld
      have hHeld := hHeld'
      clear hHeld'
      try simp only [Act.put, List.setIfInBounds_toArray, List.set_cons_zero, List.set_cons_succ]
      refine wpAnyH_take (i := 6) (oi := { dst := some 49, op := Op.fieldAddr 69 (Operand.tmp 6) 3, type := 0, pos := "ref.go:66", after := #[{ on := 0, ground := Ground.phase }, { on := 1, ground := Ground.phase }, { on := 2, ground := Ground.phase }, { on := 3, ground := Ground.phase }, { on := 4, ground := Ground.phase }, { on := 5, ground := Ground.phase }], guard := none }) (v := ?v17) rfl (by kernel_rfl) (by kernel_rfl) (by kernel_rfl) (fun _ _ _ h => h) (Or.inl ⟨by rfl, ?hy17⟩) hHeld ?rest17
      case hy17 => (intro w' hSw; (try dsimp only at hSw); go_simp; (try with_reducible rfl))
      try simp only [Act.put, List.setIfInBounds_toArray, List.set_cons_zero, List.set_cons_succ]
      refine wpAnyH_ready (rs := [7]) (by kernel_rfl) (by simp) (AllReadyH.cons (o := { dst := none, op := Op.store 24 (Operand.tmp 49) (Operand.tmp 47), type := 0, pos := "ref.go:66", after := #[{ on := 6, ground := Ground.data }, { on := 3, ground := Ground.data }, { on := 5, ground := Ground.chain }, { on := 0, ground := Ground.phase }, { on := 1, ground := Ground.phase }, { on := 2, ground := Ground.phase }, { on := 3, ground := Ground.phase }, { on := 4, ground := Ground.phase }, { on := 5, ground := Ground.phase }], guard := none }) rfl (fun K hK => ?_) AllReadyH.nil)
      have k3 := HB2.out.1
      have z3 := HB2.out.2
      go_simp
      refine hK.out _ _ (SS.out _ (HU.out _ rfl).2) (fun hHeld' => ?_)
      clear hK K hHeld
      have hHeld := hHeld'
      clear hHeld'
      try simp only [Act.put, List.setIfInBounds_toArray, List.set_cons_zero, List.set_cons_succ]
      refine wpAnyH_done (by kernel_rfl) ?_ _
      go_wp2_with fail
      obtain ⟨d2, b2⟩ := HU.out _ rfl
      generalize ((W1.setCell ⟨g1, 2, none⟩ (.bool true)).setCell ⟨g1, 3, none⟩ (.int .u64 vl)).drew = W2 at d2 b2 ⊢
      have D2 := Lib.hid d2
      have BW2 := Lib.hid b2
      clear d2 b2 HU HU2 HB2 SS k0 z0 k3 z3 D1 BW1 HW1
      go_wp2_with fail
      go_loopw [7] (fun iv wr => ∃ (k : Nat) (d : Fo) (vb vk : Value) (css : List (List Value)), 1 ≤ k ∧ k ≤ n ∧ iv = .int .i64 k ∧ Hid (DB B W0.heap.size wr g1 (.int .i64 0) (.slice Ap E cp) (.bool true) (.int .u64 vl) vb vk d.bytes css d) ∧ Hid (mkF (cT 1 f) (grp (rel ee (ps.drop 1))) = d.app (mkF (cT 1 f) (grp (rel ee (ps.drop k)))) ∧ d.len ≤ k) ∧ Hid (Below W0.heap.size W0 wr)) (fun iv _ => n - (intOf iv).toNat)
      case atStart => exact ⟨1, .nil, _, _, [], Nat.le_refl _, by omega, rfl, D2, Lib.hid ⟨rfl, Nat.zero_le _⟩, BW2⟩
      case round =>
        obtain ⟨k, d, vb, vk, css, hk0, hk, rfl, HD, HM, HBr⟩ := hrel
        have hBw := BW.out.trans (HBr.out.mono BW.out.size)
        have HBw := Lib.hid hBw
        by_cases h1 : k < n
        · obtain ⟨_, u, e0, _, eu, d1, _, bu⟩ := (HA.out wr hBw).at_ h1
          cases e0
          have hul := HI0.out k u hk0 eu
          have hun : u.n = u.key.length := bu.1.symm
          obtain ⟨adk, ub, hAu, _, eb, d2⟩ := bu.at_ (show ee < u.n by omega)
          have hbk := HBT.out k u eu hul
          rw [hbk] at eb
          injection eb with eb
          subst eb
          rw [hAu] at d1
          have HEU := Lib.hid eu
          have hkn : (k : Int) < (n : Int) := by omega
          have hun2 : ee < u.n := by omega
          have SS := Lib.hid (fun X (h : Below w.heap.size w X) => show X.cell? (ad.add (k * 2)) = some (.slice (some adk) u.n u.c) ∧ X.cell? (adk.add ee) = some (.int .u8 ((bt k).toNat : Int)) from by
            obtain ⟨_, u', e0, _, eu', f1, _, bu'⟩ := (HA.out X h).at_ h1
            cases e0
            rw [HEU.out] at eu'
            injection eu' with eu'
            subst eu'
            obtain ⟨adk', ub', hAu', _, eb', f2⟩ := bu'.at_ hun2
            rw [hAu] at hAu' f1
            injection hAu' with hAu'
            subst hAu'
            rw [HBT.out k u HEU.out (by omega)] at eb'
            injection eb' with eb'
            subst eb'
            exact ⟨f1, f2⟩)
          have HAU := Lib.hid hAu
          clear d1 d2 bu eu hbk hAu hun
          go_upto_block 2 with fail
          go_cut [8] (fun jv wc => ∃ jj : Nat, k < jj ∧ jj ≤ n ∧ jv = .int .i64 jj ∧ Hid ((∀ i, k ≤ i → i < jj → bt i = bt k) ∧ (∀ i, jj ≤ i → i < n → bt jj ≠ bt k)) ∧ Still wr wc)
          case first =>
            go_wp2_with fail
            go_loopw [8] (fun jv wq => ∃ jj : Nat, k ≤ jj ∧ jj ≤ n ∧ jv = .int .i64 jj ∧ Hid (∀ i, k ≤ i → i < jj → bt i = bt k) ∧ Still wr wq) (fun jv _ => n - (intOf jv).toNat)
            case atStart => exact ⟨k, Nat.le_refl _, hk, rfl, Lib.hid (fun i h2 h3 => by omega), Still.refl _⟩
            case round =>
              obtain ⟨jj, hj0, hj, rfl, HJ, tq, rfl⟩ := hrel
              obtain ⟨s1, s2⟩ := SS.out wr HBw.out
              by_cases h2 : jj < n
              · obtain ⟨_, v, e0, _, ev, f1, _, bv⟩ := (HA.out wr HBw.out).at_ h2
                cases e0
                have hvl := HI0.out jj v (by omega) ev
                have hvn : v.n = v.key.length := bv.1.symm
                obtain ⟨adj, vb', hAv, _, eb, f2⟩ := bv.at_ (show ee < v.n by omega)
                rw [HBT.out jj v ev hvl] at eb
                injection eb with eb
                subst eb
                rw [hAv] at f1
                have hvn2 : ee < v.n := by omega
                have hjn : (jj : Int) < (n : Int) := by omega
                have i0 : (0 : Int) ≤ (k : Int) := by omega
                have i1 : (0 : Int) ≤ (jj : Int) := by omega
                have i2 : (ee : Int) < (v.n : Int) := by omega
                have i3 : (ee : Int) < (u.n : Int) := by omega
                clear bv ev hAv hvn hvl
                by_cases hs : bt jj = bt k
                · have HJ2 := Lib.hid (show ∀ i, k ≤ i → i < jj + 1 → bt i = bt k from fun i h3 h4 => by
                    rcases Nat.lt_or_ge i jj with h | h
                    · exact HJ.out i h3 h
                    · have : i = jj := by omega
                      rw [this]; exact hs)
                  rw [hs] at f2
                  clear hs
                  generalize (bt k).toNat = bk at s2 f2
                  go_wp2_with fail
                  go_quiet (fail)
                  go_wp2
                  exact ⟨⟨jj + 1, by omega, by omega, by go_num, HJ2, (by repeat (first | exact Still.refl _ | apply Still.step))⟩, by simp [intOf]; omega⟩
                · have hne : k ≠ jj := fun e => hs (by rw [e])
                  have HJ3 := Lib.hid (show (∀ i, k ≤ i → i < jj → bt i = bt k) ∧ (∀ i, jj ≤ i → i < n → bt jj ≠ bt k) from ⟨HJ.out, fun i _ _ => hs⟩)
                  have hsb : (((bt jj).toNat : Int) == ((bt k).toNat : Int)) = false := by
                    rw [beq_eq_false_iff_ne]
                    exact fun e => hs (UInt8.toNat_inj.1 (by omega))
                  clear hs
                  generalize ((bt k).toNat : Int) = bk at s2 hsb
                  generalize ((bt jj).toNat : Int) = bj at f2 hsb
                  go_wp2_with fail
                  go_quiet (fail)
                  go_wp2_with fail
                  go_meet
                  exact ⟨jj, by omega, by omega, rfl, HJ3, (by repeat (first | exact Still.refl _ | apply Still.step))⟩
              · obtain rfl : jj = n := by omega
                have HJ3 := Lib.hid (show (∀ i, k ≤ i → i < jj → bt i = bt k) ∧ (∀ i, jj ≤ i → i < jj → bt jj ≠ bt k) from ⟨HJ.out, fun i _ _ => by omega⟩)
                go_wp2_with fail
                go_quiet (fail)
                go_wp2_with fail
                go_meet
                exact ⟨jj, by omega, Nat.le_refl _, rfl, HJ3, (by repeat (first | exact Still.refl _ | apply Still.step))⟩
          case rest =>
            obtain ⟨jj, hj1, hj2, rfl, HJ, hS⟩ := hcut
            have HD2 := Lib.hid (HD.out.still hS)
            have BV2 := Lib.hid (show Below w.heap.size w wc from HBw.out.trans (hS.below _))
            have BU2 := Lib.hid (show Below W0.heap.size W0 wc from HBr.out.trans (hS.below _))
            clear hS HBw hBw HBr HD
            generalize wc = V2 at HD2 BV2 BU2 ⊢
            obtain ⟨Ab, cb, e, _⟩ := HD2.out.byt.slice
            subst e
            obtain ⟨Ak, ck, e, _⟩ := HD2.out.kids.slice
            subst e
            have hdl : d.len ≤ 1000 := by have := HM.out.2; omega
            have hbl : d.bytes.length ≤ 1000 := by rw [Fo.bytes_len]; exact hdl
            have hcl : css.length ≤ 1000 := by rw [HD2.out.dis.len]; exact hdl
            have hWs : w.heap.size ≤ W0.heap.size := BW.out.size
            have hWV : W0.heap.size ≤ V2.heap.size := BU2.out.size
            have KB := Lib.hid (fun X (h : Below V2.heap.size V2 X) => show X.cell? ⟨g1, 4, none⟩ = some (.slice Ab d.bytes.length cb) from (HD2.out.below h).blk.cell 4)
            have S2 := Lib.hid (fun X (h : Below V2.heap.size V2 X) => SS.out X (BV2.out.trans (h.mono BV2.out.size)))
            have MR := Lib.hid (fun X (h : Below V2.heap.size V2 X) => (HD2.out.below h).byt)
            obtain ⟨bz, hbz⟩ : ∃ z : Int, ((bt k).toNat : Int) = z := ⟨_, rfl⟩
            have HBZ := Lib.hid hbz
            rw [hbz] at S2
            clear hbz
            go_upto_region 15 with fail
            go_cut [80] (fun v80 wc => ∃ (Ab' : Option Addr) (nb' cb' : Nat), Hid (DB B W0.heap.size wc g1 (.int .i64 0) (.slice Ap E cp) (.bool true) (.int .u64 vl) (.slice Ab' nb' cb') (.slice Ak css.length ck) (d.bytes ++ [bt k]) css d) ∧ Hid (Below W0.heap.size W0 wc))
            case first =>
              refine wp_region_held_drew (S := (fun X => X.cell? (ad.add (k * 2)) = some (.slice (some adk) u.n u.c) ∧ X.cell? (adk.add ee) = some (.int .u8 bz))) (by kernel_rfl) (S2.out _ (Below.refl V2.heap.size V2).drew) (fun hHeld => ?_)
              refine wpAnyH_take (i := 0) (oi := { dst := some 80, op := Op.fieldAddr 69 (Operand.tmp 6) 4, type := 0, pos := "ref.go:74", after := #[], guard := none }) (v := ?v18) rfl (by kernel_rfl) (by kernel_rfl) (by kernel_rfl) (fun _ _ _ h => h) (Or.inl ⟨by rfl, ?hy18⟩) hHeld ?rest18
              case hy18 => (intro w' hSw; (try dsimp only at hSw); go_simp; (try with_reducible rfl))
              try simp only [Act.put, List.setIfInBounds_toArray, List.set_cons_zero, List.set_cons_succ]
              refine wpAnyH_take (i := 2) (oi := { dst := some 82, op := Op.move (Operand.tmp 0), type := 22, pos := "ref.go:74", after := #[], guard := none }) (v := ?v19) rfl (by kernel_rfl) (by kernel_rfl) (by kernel_rfl) (fun _ _ _ h => h) (Or.inl ⟨by rfl, ?hy19⟩) hHeld ?rest19
              case hy19 => (intro w' hSw; (try dsimp only at hSw); go_simp; (try with_reducible rfl))
              try simp only [Act.put, List.setIfInBounds_toArray, List.set_cons_zero, List.set_cons_succ]
              refine wpAnyH_take (i := 3) (oi := { dst := some 83, op := Op.move (Operand.tmp 7), type := 3, pos := "ref.go:74", after := #[], guard := none }) (v := ?v20) rfl (by kernel_rfl) (by kernel_rfl) (by kernel_rfl) (fun _ _ _ h => h) (Or.inl ⟨by rfl, ?hy20⟩) hHeld ?rest20
              case hy20 => (intro w' hSw; (try dsimp only at hSw); go_simp; (try with_reducible rfl))
              try simp only [Act.put, List.setIfInBounds_toArray, List.set_cons_zero, List.set_cons_succ]
              refine wpAnyH_take (i := 4) (oi := { dst := some 84, op := Op.indexAddr 22 (Operand.tmp 82) (Operand.tmp 83), type := 0, pos := "ref.go:74", after := #[{ on := 2, ground := Ground.data }, { on := 3, ground := Ground.data }], guard := none }) (v := ?v21) rfl (by kernel_rfl) (by kernel_rfl) (by kernel_rfl) (fun _ _ _ h => h) (Or.inl ⟨by rfl, ?hy21⟩) hHeld ?rest21
              case hy21 => (intro w' hSw; (try dsimp only at hSw); go_simp; (try with_reducible rfl))
              try simp only [Act.put, List.setIfInBounds_toArray, List.set_cons_zero, List.set_cons_succ]
              refine wpAnyH_take (i := 5) (oi := { dst := some 85, op := Op.fieldAddr 53 (Operand.tmp 84) 0, type := 0, pos := "ref.go:74", after := #[{ on := 4, ground := Ground.data }], guard := none }) (v := ?v22) rfl (by kernel_rfl) (by kernel_rfl) (by kernel_rfl) (fun _ _ _ h => h) (Or.inl ⟨by rfl, ?hy22⟩) hHeld ?rest22
              case hy22 => (intro w' hSw; (try dsimp only at hSw); go_simp; (try with_reducible rfl))
              try simp only [Act.put, List.setIfInBounds_toArray, List.set_cons_zero, List.set_cons_succ]
              refine wpAnyH_take (i := 6) (oi := { dst := some 86, op := Op.load 23 (Operand.tmp 85), type := 23, pos := "ref.go:74", after := #[{ on := 5, ground := Ground.data }], guard := none }) (v := ?v23) rfl (by kernel_rfl) (by kernel_rfl) (by kernel_rfl) (fun _ _ _ h => h) (Or.inl ⟨by rfl, ?hy23⟩) hHeld ?rest23
              case hy23 => (intro w' hSw; (try dsimp only at hSw); go_simp; (try with_reducible rfl))
              try simp only [Act.put, List.setIfInBounds_toArray, List.set_cons_zero, List.set_cons_succ]
              refine wpAnyH_take (i := 7) (oi := { dst := some 87, op := Op.move (Operand.tmp 5), type := 3, pos := "ref.go:74", after := #[], guard := none }) (v := ?v24) rfl (by kernel_rfl) (by kernel_rfl) (by kernel_rfl) (fun _ _ _ h => h) (Or.inl ⟨by rfl, ?hy24⟩) hHeld ?rest24
              case hy24 => (intro w' hSw; (try dsimp only at hSw); go_simp; (try with_reducible rfl))
              try simp only [Act.put, List.setIfInBounds_toArray, List.set_cons_zero, List.set_cons_succ]
              refine wpAnyH_take (i := 8) (oi := { dst := some 88, op := Op.indexAddr 23 (Operand.tmp 86) (Operand.tmp 87), type := 0, pos := "ref.go:74", after := #[{ on := 6, ground := Ground.data }, { on := 7, ground := Ground.data }], guard := none }) (v := ?v25) rfl (by kernel_rfl) (by kernel_rfl) (by kernel_rfl) (fun _ _ _ h => h) (Or.inl ⟨by rfl, ?hy25⟩) hHeld ?rest25
              case hy25 => (intro w' hSw; (try dsimp only at hSw); go_simp; (try with_reducible rfl))
              try simp only [Act.put, List.setIfInBounds_toArray, List.set_cons_zero, List.set_cons_succ]
              refine wpAnyH_take (i := 9) (oi := { dst := some 89, op := Op.load 5 (Operand.tmp 88), type := 5, pos := "ref.go:74", after := #[{ on := 8, ground := Ground.data }], guard := none }) (v := ?v26) rfl (by kernel_rfl) (by kernel_rfl) (by kernel_rfl) (fun _ _ _ h => h) (Or.inl ⟨by rfl, ?hy26⟩) hHeld ?rest26
              case hy26 => (intro w' hSw; (try dsimp only at hSw); go_simp; (try with_reducible rfl))
              try simp only [Act.put, List.setIfInBounds_toArray, List.set_cons_zero, List.set_cons_succ]
              refine wpAnyH_ready (rs := [1, 10]) (by kernel_rfl) (by simp) (AllReadyH.cons (o := { dst := some 81, op := Op.load 23 (Operand.tmp 80), type := 23, pos := "ref.go:74", after := #[{ on := 0, ground := Ground.data }], guard := none }) rfl (fun K hK => ?_) (AllReadyH.cons (o := { dst := some 90, op := Op.buildSlice 23 1 #[(0, Operand.tmp 89)], type := 23, pos := "ref.go:74", after := #[{ on := 9, ground := Ground.data }], guard := none }) rfl (fun K hK => ?_) AllReadyH.nil))
              · have cz := KB.out _ (Below.refl V2.heap.size V2).drew
                go_simp
                refine hK.out _ _ (S2.out _ (Below.refl V2.heap.size V2).drew) (fun hHeld' => ?_)
                clear hK K hHeld
                have hHeld := hHeld'
                clear hHeld'
                try simp only [Act.put, List.setIfInBounds_toArray, List.set_cons_zero, List.set_cons_succ]
                refine wpAnyH_ready (rs := [10]) (by kernel_rfl) (by simp) (AllReadyH.cons (o := { dst := some 90, op := Op.buildSlice 23 1 #[(0, Operand.tmp 89)], type := 23, pos := "ref.go:74", after := #[{ on := 9, ground := Ground.data }], guard := none }) rfl (fun K hK => ?_) AllReadyH.nil)
                go_simp
                obtain ⟨U3, hU3⟩ : ∃ W, (V2.alloc (.cells #[.int .u8 bz] 5)).drew = W := ⟨_, rfl⟩
                have B3 := Lib.hid (show Below V2.heap.size V2 U3 by rw [← hU3]; exact ((Below.refl V2.heap.size V2).alloc (Nat.le_refl _) _).drew)
                have LB := Lib.hid (show Blk U3 V2.heap.size #[.int .u8 bz] by rw [← hU3]; exact Blk.new _ _ _)
                rw [hU3]
                clear hU3
                refine hK.out _ _ (S2.out _ B3.out) (fun hHeld' => ?_)
                clear hK K hHeld
                have hHeld := hHeld'
                clear hHeld'
                try simp only [Act.put, List.setIfInBounds_toArray, List.set_cons_zero, List.set_cons_succ]
                refine wpAnyH_ready (rs := [11]) (by kernel_rfl) (by simp) (AllReadyH.cons (o := { dst := some 91, op := Op.call { callee := Callee.builtin Builtin.append, args := #[Operand.tmp 81, Operand.tmp 90], argTypes := #[23, 23] }, type := 23, pos := "ref.go:74", after := #[{ on := 1, ground := Ground.data }, { on := 10, ground := Ground.data }], guard := none }) rfl (fun K hK => ?_) AllReadyH.nil)
                rw [if_pos (by rfl)]
                refine wp_append_rws _ (.tmp 81) (.tmp 90) _ rfl Tryz.underlying23 info_u8r (by rfl) (by decide) W0.heap.size (.slice Ab d.bytes.length cb) d.bytes.length (d.bytes.map fun b => [.int .u8 (b.toNat : Int)]) (by rfl) (MR.out _ B3.out) ⟨V2.heap.size, 0, none⟩ 1 [.int .u8 bz] (by rfl) (by rfl) (lit_cells LB.out) (by intro u hu; simp at hu; subst hu; rfl) (by omega) (by unfold maxLen; omega) (by have := B3.out.size; omega) ?_
                intro v3 U4 m3 g3 o3
                obtain ⟨A3, c3, rfl, _⟩ := m3.slice
                rw [← HBZ.out] at m3
                obtain ⟨x1, x2, x3, x4, x5⟩ := HD2.out.addb B3.out m3 g3 o3
                have E1 := Lib.hid x3
                have E4 := Lib.hid (BU2.out.trans x4)
                have S4 := Lib.hid (SS.out U4 (BV2.out.trans (x5.mono hWs)))
                have S6 := Lib.hid (SS.out _ (BV2.out.trans (x4.mono hWs)))
                rw [HBZ.out] at S4 S6
                clear m3 g3 o3 x3 x4 x5
                refine hK.out _ _ S4.out (fun hHeld' => ?_)
                clear hK K hHeld
                have hHeld := hHeld'
                clear hHeld'
                try simp only [Act.put, List.setIfInBounds_toArray, List.set_cons_zero, List.set_cons_succ]
                refine wpAnyH_take (i := 12) (oi := { dst := some 92, op := Op.fieldAddr 69 (Operand.tmp 6) 4, type := 0, pos := "ref.go:74", after := #[{ on := 0, ground := Ground.phase }, { on := 1, ground := Ground.phase }, { on := 2, ground := Ground.phase }, { on := 3, ground := Ground.phase }, { on := 4, ground := Ground.phase }, { on := 5, ground := Ground.phase }, { on := 6, ground := Ground.phase }, { on := 7, ground := Ground.phase }, { on := 8, ground := Ground.phase }, { on := 9, ground := Ground.phase }, { on := 10, ground := Ground.phase }, { on := 11, ground := Ground.phase }], guard := none }) (v := ?v27) rfl (by kernel_rfl) (by kernel_rfl) (by kernel_rfl) (fun _ _ _ h => h) (Or.inl ⟨by rfl, ?hy27⟩) hHeld ?rest27
                case hy27 => (intro w' hSw; (try dsimp only at hSw); go_simp; (try with_reducible rfl))
                try simp only [Act.put, List.setIfInBounds_toArray, List.set_cons_zero, List.set_cons_succ]
                refine wpAnyH_ready (rs := [13]) (by kernel_rfl) (by simp) (AllReadyH.cons (o := { dst := none, op := Op.store 23 (Operand.tmp 92) (Operand.tmp 91), type := 0, pos := "ref.go:74", after := #[{ on := 12, ground := Ground.data }, { on := 11, ground := Ground.data }, { on := 11, ground := Ground.chain }, { on := 0, ground := Ground.phase }, { on := 1, ground := Ground.phase }, { on := 2, ground := Ground.phase }, { on := 3, ground := Ground.phase }, { on := 4, ground := Ground.phase }, { on := 5, ground := Ground.phase }, { on := 6, ground := Ground.phase }, { on := 7, ground := Ground.phase }, { on := 8, ground := Ground.phase }, { on := 9, ground := Ground.phase }, { on := 10, ground := Ground.phase }, { on := 11, ground := Ground.phase }], guard := none }) rfl (fun K hK => ?_) AllReadyH.nil)
                go_simp
                refine hK.out _ _ S6.out (fun hHeld' => ?_)
                clear hK K hHeld
                have hHeld := hHeld'
                clear hHeld'
                try simp only [Act.put, List.setIfInBounds_toArray, List.set_cons_zero, List.set_cons_succ]
                refine wpAnyH_done (by kernel_rfl) ?_ _
                go_wp2_with fail
                go_meet
                exact ⟨_, _, _, E1, E4⟩
              · go_simp
                obtain ⟨U3, hU3⟩ : ∃ W, (V2.alloc (.cells #[.int .u8 bz] 5)).drew = W := ⟨_, rfl⟩
                have B3 := Lib.hid (show Below V2.heap.size V2 U3 by rw [← hU3]; exact ((Below.refl V2.heap.size V2).alloc (Nat.le_refl _) _).drew)
                have LB := Lib.hid (show Blk U3 V2.heap.size #[.int .u8 bz] by rw [← hU3]; exact Blk.new _ _ _)
                rw [hU3]
                clear hU3
                refine hK.out _ _ (S2.out _ B3.out) (fun hHeld' => ?_)
                clear hK K hHeld
                have hHeld := hHeld'
                clear hHeld'
                try simp only [Act.put, List.setIfInBounds_toArray, List.set_cons_zero, List.set_cons_succ]
                refine wpAnyH_ready (rs := [1]) (by kernel_rfl) (by simp) (AllReadyH.cons (o := { dst := some 81, op := Op.load 23 (Operand.tmp 80), type := 23, pos := "ref.go:74", after := #[{ on := 0, ground := Ground.data }], guard := none }) rfl (fun K hK => ?_) AllReadyH.nil)
                have cz := KB.out _ B3.out
                go_simp
                refine hK.out _ _ (S2.out _ B3.out) (fun hHeld' => ?_)
                clear hK K hHeld
                have hHeld := hHeld'
                clear hHeld'
                try simp only [Act.put, List.setIfInBounds_toArray, List.set_cons_zero, List.set_cons_succ]
                refine wpAnyH_ready (rs := [11]) (by kernel_rfl) (by simp) (AllReadyH.cons (o := { dst := some 91, op := Op.call { callee := Callee.builtin Builtin.append, args := #[Operand.tmp 81, Operand.tmp 90], argTypes := #[23, 23] }, type := 23, pos := "ref.go:74", after := #[{ on := 1, ground := Ground.data }, { on := 10, ground := Ground.data }], guard := none }) rfl (fun K hK => ?_) AllReadyH.nil)
                rw [if_pos (by rfl)]
                refine wp_append_rws _ (.tmp 81) (.tmp 90) _ rfl Tryz.underlying23 info_u8r (by rfl) (by decide) W0.heap.size (.slice Ab d.bytes.length cb) d.bytes.length (d.bytes.map fun b => [.int .u8 (b.toNat : Int)]) (by rfl) (MR.out _ B3.out) ⟨V2.heap.size, 0, none⟩ 1 [.int .u8 bz] (by rfl) (by rfl) (lit_cells LB.out) (by intro u hu; simp at hu; subst hu; rfl) (by omega) (by unfold maxLen; omega) (by have := B3.out.size; omega) ?_
                intro v3 U4 m3 g3 o3
                obtain ⟨A3, c3, rfl, _⟩ := m3.slice
                rw [← HBZ.out] at m3
                obtain ⟨x1, x2, x3, x4, x5⟩ := HD2.out.addb B3.out m3 g3 o3
                have E1 := Lib.hid x3
                have E4 := Lib.hid (BU2.out.trans x4)
                have S4 := Lib.hid (SS.out U4 (BV2.out.trans (x5.mono hWs)))
                have S6 := Lib.hid (SS.out _ (BV2.out.trans (x4.mono hWs)))
                rw [HBZ.out] at S4 S6
                clear m3 g3 o3 x3 x4 x5
                refine hK.out _ _ S4.out (fun hHeld' => ?_)
                clear hK K hHeld
                have hHeld := hHeld'
                clear hHeld'
                try simp only [Act.put, List.setIfInBounds_toArray, List.set_cons_zero, List.set_cons_succ]
                refine wpAnyH_take (i := 12) (oi := { dst := some 92, op := Op.fieldAddr 69 (Operand.tmp 6) 4, type := 0, pos := "ref.go:74", after := #[{ on := 0, ground := Ground.phase }, { on := 1, ground := Ground.phase }, { on := 2, ground := Ground.phase }, { on := 3, ground := Ground.phase }, { on := 4, ground := Ground.phase }, { on := 5, ground := Ground.phase }, { on := 6, ground := Ground.phase }, { on := 7, ground := Ground.phase }, { on := 8, ground := Ground.phase }, { on := 9, ground := Ground.phase }, { on := 10, ground := Ground.phase }, { on := 11, ground := Ground.phase }], guard := none }) (v := ?v28) rfl (by kernel_rfl) (by kernel_rfl) (by kernel_rfl) (fun _ _ _ h => h) (Or.inl ⟨by rfl, ?hy28⟩) hHeld ?rest28
                case hy28 => (intro w' hSw; (try dsimp only at hSw); go_simp; (try with_reducible rfl))
                try simp only [Act.put, List.setIfInBounds_toArray, List.set_cons_zero, List.set_cons_succ]
                refine wpAnyH_ready (rs := [13]) (by kernel_rfl) (by simp) (AllReadyH.cons (o := { dst := none, op := Op.store 23 (Operand.tmp 92) (Operand.tmp 91), type := 0, pos := "ref.go:74", after := #[{ on := 12, ground := Ground.data }, { on := 11, ground := Ground.data }, { on := 11, ground := Ground.chain }, { on := 0, ground := Ground.phase }, { on := 1, ground := Ground.phase }, { on := 2, ground := Ground.phase }, { on := 3, ground := Ground.phase }, { on := 4, ground := Ground.phase }, { on := 5, ground := Ground.phase }, { on := 6, ground := Ground.phase }, { on := 7, ground := Ground.phase }, { on := 8, ground := Ground.phase }, { on := 9, ground := Ground.phase }, { on := 10, ground := Ground.phase }, { on := 11, ground := Ground.phase }], guard := none }) rfl (fun K hK => ?_) AllReadyH.nil)
                go_simp
                refine hK.out _ _ S6.out (fun hHeld' => ?_)
                clear hK K hHeld
                have hHeld := hHeld'
                clear hHeld'
                try simp only [Act.put, List.setIfInBounds_toArray, List.set_cons_zero, List.set_cons_succ]
                refine wpAnyH_done (by kernel_rfl) ?_ _
                go_wp2_with fail
                go_meet
                exact ⟨_, _, _, E1, E4⟩
            case rest =>
              obtain ⟨Ab', nb', cb', HD3, BU3⟩ := hcut
              clear HD2 KB S2 MR BV2 BU2 hWV SS hbl
              generalize wc = V3 at HD3 BU3 ⊢
              have BV3 := Lib.hid (show Below w.heap.size w V3 from BW.out.trans (BU3.out.mono BW.out.size))
              obtain ⟨T, hT⟩ : ∃ T, cT 1 f (rel (ee + 1) ((ps.drop k).take (jj - k))) = T := ⟨_, rfl⟩
              have hb0 : ∀ i v, (ps.drop k)[i]? = some v → v.key[ee]? = some (bt (k + i)) := fun i v hv => by
                rw [List.getElem?_drop] at hv
                exact HBT.out _ v hv (HI0.out _ v (by omega) hv)
              have hrk : Rise (rel ee (ps.drop k)) := by
                have := HRE.out
                unfold Rise rel at *
                rw [List.map_drop]
                exact this.sublist (List.drop_sublist _ _)
              have hgr : mkF (cT 1 f) (grp (rel ee (ps.drop k))) = .cons (bt k) T.1 T.2 (mkF (cT 1 f) (grp (rel ee (ps.drop jj)))) := by
                have h3 := grp_rel (bt := fun i => bt (k + i)) hb0 (j := jj - k) (by omega) (by rw [List.length_drop, HLN.out]; omega) (fun i hi => by show bt (k + i) = bt (k + 0); rw [HJ.out.1 (k + i) (by omega) (by omega)]; rfl) (fun i h3 h4 => by
                  show bt (k + i) ≠ bt (k + 0)
                  rw [List.length_drop, HLN.out] at h4
                  have m1 := rise_mono (bt := fun i => bt (k + i)) hb0 hrk 0 (jj - k) (by omega) (by rw [List.length_drop, HLN.out]; omega)
                  have m2 := rise_mono (bt := fun i => bt (k + i)) hb0 hrk (jj - k) i h3 (by rw [List.length_drop, HLN.out]; omega)
                  have m3 := HJ.out.2 jj (Nat.le_refl _) (by omega)
                  have m4 : (bt jj).toNat ≠ (bt k).toNat := fun e => m3 (UInt8.toNat_inj.1 e)
                  simp only [Nat.add_zero, show k + (jj - k) = jj by omega] at m1 m2
                  intro e
                  simp only [Nat.add_zero] at e
                  rw [e] at m2
                  omega)
                rw [h3, List.drop_drop, show k + (jj - k) = jj by omega]
                show Fo.cons (bt (k + 0)) _ _ _ = _
                rw [hT]
                rfl
              have HGR := Lib.hid hgr
              have s16 : ∀ W', (Instr.slice 22 (.slice (some ad) n c) (some (.int .i64 (k : Int))) (some (.int .i64 (jj : Int))) none).run Tryz.prog W' = .ok (.slice (cutA (some ad) k c 2) (jj - k) (c - k)) W' := fun W' => slc_mid (P := Tryz.prog) Tryz.underlying22 size_kpair (some ad) n c k jj (by omega) (by omega) W'
              have hpx : Prs V3.drew B (cutA (some ad) k c 2) (jj - k) ((ps.drop k).take (jj - k)) := by
                have h3 := ((HA.out V3.drew BV3.out.drew).take hj2).cut_ (c := c) k (by omega) (by omega)
                rwa [List.drop_take] at h3
              have HC := Lib.hid (show Calls Tryz.prog 58 #[.slice (cutA (some ad) k c 2) (jj - k) (c - k), .int .i64 ((ee : Int) + 1)] V3.drew (RBPost B V3.drew T) from by
                rw [show ((ee : Int) + 1) = ((ee + 1 : Nat) : Int) by omega, ← hT]
                refine ih (ee + 1) (jj - k) (c - k) B _ _ V3.drew hpx (fun v hv => HKP.out V3.drew BV3.out.drew v (List.mem_of_mem_drop (List.mem_of_mem_take hv))) (Nat.le_trans hB BV3.out.drew.size) (by omega) (by omega) (by omega) (fun v hv => ?_) (rise_same (bt := fun i => bt (k + i)) hb0 hrk (fun i hi => by show bt (k + i) = bt (k + 0); rw [HJ.out.1 (k + i) (by omega) (by omega)]; rfl)) ⟨p.key.take ee ++ [bt k], ?_, fun v hv => ?_⟩
                · obtain ⟨i, hi, hv2⟩ := mem_take_at hv
                  rw [List.getElem?_drop] at hv2
                  have h3 := HI0.out _ v (by omega) hv2
                  obtain ⟨h4, h5, h6⟩ := HK.out v (List.mem_of_getElem? hv2)
                  have := HEE.out
                  exact ⟨by omega, h5, by omega⟩
                · have h3 := lcp_le_left p.key p.key
                  rw [List.length_append, List.length_take]
                  have := HEPL.out
                  simp
                  omega
                · obtain ⟨i, hi, hv2⟩ := mem_take_at hv
                  have h3 := hb0 i v hv2
                  rw [HJ.out.1 (k + i) (by omega) (by omega)] at h3
                  exact take_more (HPS.out v (List.mem_of_mem_drop (List.mem_of_mem_take hv))) h3)
              obtain ⟨Ax, hAx⟩ : ∃ X, cutA (some ad) k c 2 = X := ⟨_, rfl⟩
              obtain ⟨mx, hmx⟩ : ∃ X, jj - k = X := ⟨_, rfl⟩
              obtain ⟨cx, hcx⟩ : ∃ X, c - k = X := ⟨_, rfl⟩
              rw [hAx, hmx, hcx] at s16 HC
              have KB := Lib.hid (fun X (h : Below V3.heap.size V3 X) => show X.cell? ⟨g1, 5, none⟩ = some (.slice Ak css.length ck) from (HD3.out.below h).blk.cell 5)
              have MR := Lib.hid (fun X (h : Below V3.heap.size V3 X) => (HD3.out.below h).kids)
              have hWV : W0.heap.size ≤ V3.heap.size := BU3.out.size
              clear hT hb0 hrk hgr hpx hAx hmx hcx
              go_upto_region 16 with fail
              go_cut [93] (fun v93 wc => ∃ (Ak' : Option Addr) (nk' ck' : Nat) (css' : List (List Value)), Hid (DB B W0.heap.size wc g1 (.int .i64 0) (.slice Ap E cp) (.bool true) (.int .u64 vl) (.slice Ab' nb' cb') (.slice Ak' nk' ck') (d.bytes ++ [bt k]) css' (d.app (.cons (bt k) T.1 T.2 .nil))) ∧ Hid (Below W0.heap.size W0 wc))
              case first =>
                refine wp_region_held_drew (S := (fun _ => True)) (by kernel_rfl) True.intro (fun hHeld => ?_)
                refine wpAnyH_take (i := 0) (oi := { dst := some 93, op := Op.fieldAddr 69 (Operand.tmp 6) 5, type := 0, pos := "ref.go:75", after := #[], guard := none }) (v := ?v29) rfl (by kernel_rfl) (by kernel_rfl) (by kernel_rfl) (fun _ _ _ h => h) (Or.inl ⟨by rfl, ?hy29⟩) hHeld ?rest29
                case hy29 => (intro w' hSw; (try dsimp only at hSw); go_simp; (try with_reducible rfl))
                try simp only [Act.put, List.setIfInBounds_toArray, List.set_cons_zero, List.set_cons_succ]
                refine wpAnyH_take (i := 2) (oi := { dst := some 95, op := Op.move (Operand.tmp 0), type := 22, pos := "ref.go:75", after := #[], guard := none }) (v := ?v30) rfl (by kernel_rfl) (by kernel_rfl) (by kernel_rfl) (fun _ _ _ h => h) (Or.inl ⟨by rfl, ?hy30⟩) hHeld ?rest30
                case hy30 => (intro w' hSw; (try dsimp only at hSw); go_simp; (try with_reducible rfl))
                try simp only [Act.put, List.setIfInBounds_toArray, List.set_cons_zero, List.set_cons_succ]
                refine wpAnyH_take (i := 3) (oi := { dst := some 96, op := Op.move (Operand.tmp 7), type := 3, pos := "ref.go:75", after := #[], guard := none }) (v := ?v31) rfl (by kernel_rfl) (by kernel_rfl) (by kernel_rfl) (fun _ _ _ h => h) (Or.inl ⟨by rfl, ?hy31⟩) hHeld ?rest31
                case hy31 => (intro w' hSw; (try dsimp only at hSw); go_simp; (try with_reducible rfl))
                try simp only [Act.put, List.setIfInBounds_toArray, List.set_cons_zero, List.set_cons_succ]
                refine wpAnyH_take (i := 4) (oi := { dst := some 97, op := Op.move (Operand.tmp 8), type := 3, pos := "ref.go:75", after := #[], guard := none }) (v := ?v32) rfl (by kernel_rfl) (by kernel_rfl) (by kernel_rfl) (fun _ _ _ h => h) (Or.inl ⟨by rfl, ?hy32⟩) hHeld ?rest32
                case hy32 => (intro w' hSw; (try dsimp only at hSw); go_simp; (try with_reducible rfl))
                try simp only [Act.put, List.setIfInBounds_toArray, List.set_cons_zero, List.set_cons_succ]
                refine wpAnyH_take (i := 5) (oi := { dst := some 98, op := Op.slice 22 (Operand.tmp 95) (some (Operand.tmp 96)) (some (Operand.tmp 97)) none, type := 22, pos := "ref.go:75", after := #[{ on := 2, ground := Ground.data }, { on := 3, ground := Ground.data }, { on := 4, ground := Ground.data }], guard := none }) (v := ?v33) rfl (by kernel_rfl) (by kernel_rfl) (by kernel_rfl) (fun _ _ _ h => h) (Or.inl ⟨by rfl, ?hy33⟩) hHeld ?rest33
                case hy33 => (intro w' hSw; (try dsimp only at hSw); go_simp; (try with_reducible rfl))
                try simp only [Act.put, List.setIfInBounds_toArray, List.set_cons_zero, List.set_cons_succ]
                refine wpAnyH_take (i := 6) (oi := { dst := some 99, op := Op.move (Operand.tmp 5), type := 3, pos := "ref.go:75", after := #[], guard := none }) (v := ?v34) rfl (by kernel_rfl) (by kernel_rfl) (by kernel_rfl) (fun _ _ _ h => h) (Or.inl ⟨by rfl, ?hy34⟩) hHeld ?rest34
                case hy34 => (intro w' hSw; (try dsimp only at hSw); go_simp; (try with_reducible rfl))
                try simp only [Act.put, List.setIfInBounds_toArray, List.set_cons_zero, List.set_cons_succ]
                refine wpAnyH_take (i := 7) (oi := { dst := some 100, op := Op.binOp BinOp.add 3 (Operand.tmp 99) (Operand.const (Value.int IntKind.i64 1)) 3, type := 3, pos := "ref.go:75", after := #[{ on := 6, ground := Ground.data }], guard := none }) (v := ?v35) rfl (by kernel_rfl) (by kernel_rfl) (by kernel_rfl) (fun _ _ _ h => h) (Or.inl ⟨by rfl, ?hy35⟩) hHeld ?rest35
                case hy35 => (intro w' hSw; (try dsimp only at hSw); go_simp; (try with_reducible rfl))
                try simp only [Act.put, List.setIfInBounds_toArray, List.set_cons_zero, List.set_cons_succ]
                refine wpAnyH_ready (rs := [1, 8]) (by kernel_rfl) (by simp) (AllReadyH.cons (o := { dst := some 94, op := Op.load 67 (Operand.tmp 93), type := 67, pos := "ref.go:75", after := #[{ on := 0, ground := Ground.data }], guard := none }) rfl (fun K hK => ?_) (AllReadyH.cons (o := { dst := some 101, op := Op.call { callee := Callee.value (Operand.func 58), args := #[Operand.tmp 98, Operand.tmp 100], argTypes := #[22, 3] }, type := 69, pos := "ref.go:75", after := #[{ on := 5, ground := Ground.data }, { on := 7, ground := Ground.data }], guard := none }) rfl (fun K hK => ?_) AllReadyH.nil))
                · have cz := KB.out _ (Below.refl V3.heap.size V3).drew
                  go_simp
                  refine hK.out _ _ True.intro (fun hHeld' => ?_)
                  clear hK K hHeld
                  have hHeld := hHeld'
                  clear hHeld'
                  try simp only [Act.put, List.setIfInBounds_toArray, List.set_cons_zero, List.set_cons_succ]
                  refine wpAnyH_ready (rs := [8]) (by kernel_rfl) (by simp) (AllReadyH.cons (o := { dst := some 101, op := Op.call { callee := Callee.value (Operand.func 58), args := #[Operand.tmp 98, Operand.tmp 100], argTypes := #[22, 3] }, type := 69, pos := "ref.go:75", after := #[{ on := 5, ground := Ground.data }, { on := 7, ground := Ground.data }], guard := none }) rfl (fun K hK => ?_) AllReadyH.nil)
                  go_simp
                  (with_reducible refine HC.out.mono ?_)
                  rintro e U5 ⟨cs, rfl, y0, b5⟩
                  obtain ⟨dv, ek, rfl, y1, y2⟩ := y0
                  have X5 := Lib.hid (show DnoS U5 (fun i => i < B ∨ (V3.heap.size ≤ i ∧ i < U5.heap.size)) T.1 T.2 (dv.cells T.1 T.2) from ⟨dv, ek, rfl, y1, y2⟩)
                  have B5 := Lib.hid (show Below V3.heap.size V3 U5 from (Below.refl V3.heap.size V3).drew.trans b5)
                  clear y1 y2 b5
                  rw [show (dv.cells T.1 T.2).toArray = (dArr (kdV T.1 T.2) dv T.1.has T.1.val) from rfl]
                  go_wp2_with fail
                  refine hK.out _ _ True.intro (fun hHeld' => ?_)
                  clear hK K hHeld
                  have hHeld := hHeld'
                  clear hHeld'
                  try simp only [Act.put, List.setIfInBounds_toArray, List.set_cons_zero, List.set_cons_succ]
                  refine wpAnyH_ready (rs := [9]) (by kernel_rfl) (by simp) (AllReadyH.cons (o := { dst := some 102, op := Op.buildSlice 67 1 #[(0, Operand.tmp 101)], type := 67, pos := "ref.go:75", after := #[{ on := 8, ground := Ground.data }], guard := none }) rfl (fun K hK => ?_) AllReadyH.nil)
                  go_simp
                  obtain ⟨U6, hU6⟩ : ∃ W, U5.alloc (.cells (dArr (kdV T.1 T.2) dv T.1.has T.1.val) 69) = W := ⟨_, rfl⟩
                  have B56 := Lib.hid (show Below U5.heap.size U5 U6 by rw [← hU6]; exact (Below.refl U5.heap.size U5).alloc (Nat.le_refl _) _)
                  have B6 := Lib.hid (show Below V3.heap.size V3 U6 from B5.out.trans (B56.out.mono B5.out.size))
                  have LB := Lib.hid (show Blk U6 U5.heap.size (dArr (kdV T.1 T.2) dv T.1.has T.1.val) by rw [← hU6]; exact Blk.new _ _ _)
                  rw [hU6]
                  clear hU6
                  refine hK.out _ _ True.intro (fun hHeld' => ?_)
                  clear hK K hHeld
                  have hHeld := hHeld'
                  clear hHeld'
                  try simp only [Act.put, List.setIfInBounds_toArray, List.set_cons_zero, List.set_cons_succ]
                  refine wpAnyH_ready (rs := [10]) (by kernel_rfl) (by simp) (AllReadyH.cons (o := { dst := some 103, op := Op.call { callee := Callee.builtin Builtin.append, args := #[Operand.tmp 94, Operand.tmp 102], argTypes := #[67, 67] }, type := 67, pos := "ref.go:75", after := #[{ on := 1, ground := Ground.data }, { on := 9, ground := Ground.data }, { on := 8, ground := Ground.chain }], guard := none }) rfl (fun K hK => ?_) AllReadyH.nil)
                  rw [if_pos (by rfl)]
                  refine wp_append_rws _ (.tmp 94) (.tmp 102) _ rfl Tryz.underlying67 info_node (by rfl) (by decide) W0.heap.size (.slice Ak css.length ck) css.length css (by rfl) (MR.out _ B6.out) ⟨U5.heap.size, 0, none⟩ 1 (dv.cells T.1 T.2) (by rfl) (by rfl) (lit_cells (cs := dv.cells T.1 T.2) LB.out) (by intro u hu; simp [Dv.cells] at hu; rcases hu with rfl | rfl | rfl | rfl | rfl | rfl <;> rfl) (by omega) (by unfold maxLen; omega) (by have := B6.out.size; omega) ?_
                  intro v3 U7 m3 g3 o3
                  obtain ⟨A3, c3, rfl, _⟩ := m3.slice
                  obtain ⟨x1, x2, x3, x4, x5⟩ := HD3.out.addk B5.out X5.out B56.out (bt k) m3 g3 o3
                  have E1 := Lib.hid x3
                  have E4 := Lib.hid (BU3.out.trans x4)
                  clear m3 g3 o3 x3 x4 x5
                  refine hK.out _ _ True.intro (fun hHeld' => ?_)
                  clear hK K hHeld
                  have hHeld := hHeld'
                  clear hHeld'
                  try simp only [Act.put, List.setIfInBounds_toArray, List.set_cons_zero, List.set_cons_succ]
                  refine wpAnyH_take (i := 11) (oi := { dst := some 104, op := Op.fieldAddr 69 (Operand.tmp 6) 5, type := 0, pos := "ref.go:75", after := #[{ on := 0, ground := Ground.phase }, { on := 1, ground := Ground.phase }, { on := 2, ground := Ground.phase }, { on := 3, ground := Ground.phase }, { on := 4, ground := Ground.phase }, { on := 5, ground := Ground.phase }, { on := 6, ground := Ground.phase }, { on := 7, ground := Ground.phase }, { on := 8, ground := Ground.phase }, { on := 9, ground := Ground.phase }, { on := 10, ground := Ground.phase }], guard := none }) (v := ?v36) rfl (by kernel_rfl) (by kernel_rfl) (by kernel_rfl) (fun _ _ _ h => h) (Or.inl ⟨by rfl, ?hy36⟩) hHeld ?rest36
                  case hy36 => (intro w' hSw; (try dsimp only at hSw); go_simp; (try with_reducible rfl))
                  try simp only [Act.put, List.setIfInBounds_toArray, List.set_cons_zero, List.set_cons_succ]
                  refine wpAnyH_ready (rs := [12]) (by kernel_rfl) (by simp) (AllReadyH.cons (o := { dst := none, op := Op.store 67 (Operand.tmp 104) (Operand.tmp 103), type := 0, pos := "ref.go:75", after := #[{ on := 11, ground := Ground.data }, { on := 10, ground := Ground.data }, { on := 10, ground := Ground.chain }, { on := 0, ground := Ground.phase }, { on := 1, ground := Ground.phase }, { on := 2, ground := Ground.phase }, { on := 3, ground := Ground.phase }, { on := 4, ground := Ground.phase }, { on := 5, ground := Ground.phase }, { on := 6, ground := Ground.phase }, { on := 7, ground := Ground.phase }, { on := 8, ground := Ground.phase }, { on := 9, ground := Ground.phase }, { on := 10, ground := Ground.phase }], guard := none }) rfl (fun K hK => ?_) AllReadyH.nil)
                  go_simp
                  refine hK.out _ _ True.intro (fun hHeld' => ?_)
                  clear hK K hHeld
                  have hHeld := hHeld'
                  clear hHeld'
                  try simp only [Act.put, List.setIfInBounds_toArray, List.set_cons_zero, List.set_cons_succ]
                  refine wpAnyH_done (by kernel_rfl) ?_ _
                  go_wp2_with fail
                  go_meet
                  exact ⟨_, _, _, _, E1, E4⟩
                · go_simp
                  (with_reducible refine HC.out.mono ?_)
                  rintro e U5 ⟨cs, rfl, y0, b5⟩
                  obtain ⟨dv, ek, rfl, y1, y2⟩ := y0
                  have X5 := Lib.hid (show DnoS U5 (fun i => i < B ∨ (V3.heap.size ≤ i ∧ i < U5.heap.size)) T.1 T.2 (dv.cells T.1 T.2) from ⟨dv, ek, rfl, y1, y2⟩)
                  have B5 := Lib.hid (show Below V3.heap.size V3 U5 from (Below.refl V3.heap.size V3).drew.trans b5)
                  clear y1 y2 b5
                  rw [show (dv.cells T.1 T.2).toArray = (dArr (kdV T.1 T.2) dv T.1.has T.1.val) from rfl]
                  go_wp2_with fail
                  refine hK.out _ _ True.intro (fun hHeld' => ?_)
                  clear hK K hHeld
                  have hHeld := hHeld'
                  clear hHeld'
                  try simp only [Act.put, List.setIfInBounds_toArray, List.set_cons_zero, List.set_cons_succ]
                  refine wpAnyH_ready (rs := [1, 9]) (by kernel_rfl) (by simp) (AllReadyH.cons (o := { dst := some 94, op := Op.load 67 (Operand.tmp 93), type := 67, pos := "ref.go:75", after := #[{ on := 0, ground := Ground.data }], guard := none }) rfl (fun K hK => ?_) (AllReadyH.cons (o := { dst := some 102, op := Op.buildSlice 67 1 #[(0, Operand.tmp 101)], type := 67, pos := "ref.go:75", after := #[{ on := 8, ground := Ground.data }], guard := none }) rfl (fun K hK => ?_) AllReadyH.nil))
                  · have cz := KB.out _ B5.out
                    go_simp
                    refine hK.out _ _ True.intro (fun hHeld' => ?_)
                    clear hK K hHeld
                    have hHeld := hHeld'
                    clear hHeld'
                    try simp only [Act.put, List.setIfInBounds_toArray, List.set_cons_zero, List.set_cons_succ]
                    refine wpAnyH_ready (rs := [9]) (by kernel_rfl) (by simp) (AllReadyH.cons (o := { dst := some 102, op := Op.buildSlice 67 1 #[(0, Operand.tmp 101)], type := 67, pos := "ref.go:75", after := #[{ on := 8, ground := Ground.data }], guard := none }) rfl (fun K hK => ?_) AllReadyH.nil)
                    go_simp
                    obtain ⟨U6, hU6⟩ : ∃ W, U5.alloc (.cells (dArr (kdV T.1 T.2) dv T.1.has T.1.val) 69) = W := ⟨_, rfl⟩
                    have B56 := Lib.hid (show Below U5.heap.size U5 U6 by rw [← hU6]; exact (Below.refl U5.heap.size U5).alloc (Nat.le_refl _) _)
                    have B6 := Lib.hid (show Below V3.heap.size V3 U6 from B5.out.trans (B56.out.mono B5.out.size))
                    have LB := Lib.hid (show Blk U6 U5.heap.size (dArr (kdV T.1 T.2) dv T.1.has T.1.val) by rw [← hU6]; exact Blk.new _ _ _)
                    rw [hU6]
                    clear hU6
                    refine hK.out _ _ True.intro (fun hHeld' => ?_)
                    clear hK K hHeld
                    have hHeld := hHeld'
                    clear hHeld'
                    try simp only [Act.put, List.setIfInBounds_toArray, List.set_cons_zero, List.set_cons_succ]
                    refine wpAnyH_ready (rs := [10]) (by kernel_rfl) (by simp) (AllReadyH.cons (o := { dst := some 103, op := Op.call { callee := Callee.builtin Builtin.append, args := #[Operand.tmp 94, Operand.tmp 102], argTypes := #[67, 67] }, type := 67, pos := "ref.go:75", after := #[{ on := 1, ground := Ground.data }, { on := 9, ground := Ground.data }, { on := 8, ground := Ground.chain }], guard := none }) rfl (fun K hK => ?_) AllReadyH.nil)
                    rw [if_pos (by rfl)]
                    refine wp_append_rws _ (.tmp 94) (.tmp 102) _ rfl Tryz.underlying67 info_node (by rfl) (by decide) W0.heap.size (.slice Ak css.length ck) css.length css (by rfl) (MR.out _ B6.out) ⟨U5.heap.size, 0, none⟩ 1 (dv.cells T.1 T.2) (by rfl) (by rfl) (lit_cells (cs := dv.cells T.1 T.2) LB.out) (by intro u hu; simp [Dv.cells] at hu; rcases hu with rfl | rfl | rfl | rfl | rfl | rfl <;> rfl) (by omega) (by unfold maxLen; omega) (by have := B6.out.size; omega) ?_
                    intro v3 U7 m3 g3 o3
                    obtain ⟨A3, c3, rfl, _⟩ := m3.slice
                    obtain ⟨x1, x2, x3, x4, x5⟩ := HD3.out.addk B5.out X5.out B56.out (bt k) m3 g3 o3
                    have E1 := Lib.hid x3
                    have E4 := Lib.hid (BU3.out.trans x4)
                    clear m3 g3 o3 x3 x4 x5
                    refine hK.out _ _ True.intro (fun hHeld' => ?_)
                    clear hK K hHeld
                    have hHeld := hHeld'
                    clear hHeld'
                    try simp only [Act.put, List.setIfInBounds_toArray, List.set_cons_zero, List.set_cons_succ]
                    refine wpAnyH_take (i := 11) (oi := { dst := some 104, op := Op.fieldAddr 69 (Operand.tmp 6) 5, type := 0, pos := "ref.go:75", after := #[{ on := 0, ground := Ground.phase }, { on := 1, ground := Ground.phase }, { on := 2, ground := Ground.phase }, { on := 3, ground := Ground.phase }, { on := 4, ground := Ground.phase }, { on := 5, ground := Ground.phase }, { on := 6, ground := Ground.phase }, { on := 7, ground := Ground.phase }, { on := 8, ground := Ground.phase }, { on := 9, ground := Ground.phase }, { on := 10, ground := Ground.phase }], guard := none }) (v := ?v37) rfl (by kernel_rfl) (by kernel_rfl) (by kernel_rfl) (fun _ _ _ h => h) (Or.inl ⟨by rfl, ?hy37⟩) hHeld ?rest37
                    case hy37 => (intro w' hSw; (try dsimp only at hSw); go_simp; (try with_reducible rfl))
                    try simp only [Act.put, List.setIfInBounds_toArray, List.set_cons_zero, List.set_cons_succ]
                    refine wpAnyH_ready (rs := [12]) (by kernel_rfl) (by simp) (AllReadyH.cons (o := { dst := none, op := Op.store 67 (Operand.tmp 104) (Operand.tmp 103), type := 0, pos := "ref.go:75", after := #[{ on := 11, ground := Ground.data }, { on := 10, ground := Ground.data }, { on := 10, ground := Ground.chain }, { on := 0, ground := Ground.phase }, { on := 1, ground := Ground.phase }, { on := 2, ground := Ground.phase }, { on := 3, ground := Ground.phase }, { on := 4, ground := Ground.phase }, { on := 5, ground := Ground.phase }, { on := 6, ground := Ground.phase }, { on := 7, ground := Ground.phase }, { on := 8, ground := Ground.phase }, { on := 9, ground := Ground.phase }, { on := 10, ground := Ground.phase }], guard := none }) rfl (fun K hK => ?_) AllReadyH.nil)
                    go_simp
                    refine hK.out _ _ True.intro (fun hHeld' => ?_)
                    clear hK K hHeld
                    have hHeld := hHeld'
                    clear hHeld'
                    try simp only [Act.put, List.setIfInBounds_toArray, List.set_cons_zero, List.set_cons_succ]
                    refine wpAnyH_done (by kernel_rfl) ?_ _
                    go_wp2_with fail
                    go_meet
                    exact ⟨_, _, _, _, E1, E4⟩
                  · go_simp
                    obtain ⟨U6, hU6⟩ : ∃ W, U5.alloc (.cells (dArr (kdV T.1 T.2) dv T.1.has T.1.val) 69) = W := ⟨_, rfl⟩
                    have B56 := Lib.hid (show Below U5.heap.size U5 U6 by rw [← hU6]; exact (Below.refl U5.heap.size U5).alloc (Nat.le_refl _) _)
                    have B6 := Lib.hid (show Below V3.heap.size V3 U6 from B5.out.trans (B56.out.mono B5.out.size))
                    have LB := Lib.hid (show Blk U6 U5.heap.size (dArr (kdV T.1 T.2) dv T.1.has T.1.val) by rw [← hU6]; exact Blk.new _ _ _)
                    rw [hU6]
                    clear hU6
                    refine hK.out _ _ True.intro (fun hHeld' => ?_)
                    clear hK K hHeld
                    have hHeld := hHeld'
                    clear hHeld'
                    try simp only [Act.put, List.setIfInBounds_toArray, List.set_cons_zero, List.set_cons_succ]
                    refine wpAnyH_ready (rs := [1]) (by kernel_rfl) (by simp) (AllReadyH.cons (o := { dst := some 94, op := Op.load 67 (Operand.tmp 93), type := 67, pos := "ref.go:75", after := #[{ on := 0, ground := Ground.data }], guard := none }) rfl (fun K hK => ?_) AllReadyH.nil)
                    have cz := KB.out _ B6.out
                    go_simp
                    refine hK.out _ _ True.intro (fun hHeld' => ?_)
                    clear hK K hHeld
                    have hHeld := hHeld'
                    clear hHeld'
                    try simp only [Act.put, List.setIfInBounds_toArray, List.set_cons_zero, List.set_cons_succ]
                    refine wpAnyH_ready (rs := [10]) (by kernel_rfl) (by simp) (AllReadyH.cons (o := { dst := some 103, op := Op.call { callee := Callee.builtin Builtin.append, args := #[Operand.tmp 94, Operand.tmp 102], argTypes := #[67, 67] }, type := 67, pos := "ref.go:75", after := #[{ on := 1, ground := Ground.data }, { on := 9, ground := Ground.data }, { on := 8, ground := Ground.chain }], guard := none }) rfl (fun K hK => ?_) AllReadyH.nil)
                    rw [if_pos (by rfl)]
                    refine wp_append_rws _ (.tmp 94) (.tmp 102) _ rfl Tryz.underlying67 info_node (by rfl) (by decide) W0.heap.size (.slice Ak css.length ck) css.length css (by rfl) (MR.out _ B6.out) ⟨U5.heap.size, 0, none⟩ 1 (dv.cells T.1 T.2) (by rfl) (by rfl) (lit_cells (cs := dv.cells T.1 T.2) LB.out) (by intro u hu; simp [Dv.cells] at hu; rcases hu with rfl | rfl | rfl | rfl | rfl | rfl <;> rfl) (by omega) (by unfold maxLen; omega) (by have := B6.out.size; omega) ?_
                    intro v3 U7 m3 g3 o3
                    obtain ⟨A3, c3, rfl, _⟩ := m3.slice
                    obtain ⟨x1, x2, x3, x4, x5⟩ := HD3.out.addk B5.out X5.out B56.out (bt k) m3 g3 o3
                    have E1 := Lib.hid x3
                    have E4 := Lib.hid (BU3.out.trans x4)
                    clear m3 g3 o3 x3 x4 x5
                    refine hK.out _ _ True.intro (fun hHeld' => ?_)
                    clear hK K hHeld
                    have hHeld := hHeld'
                    clear hHeld'
                    try simp only [Act.put, List.setIfInBounds_toArray, List.set_cons_zero, List.set_cons_succ]
                    refine wpAnyH_take (i := 11) (oi := { dst := some 104, op := Op.fieldAddr 69 (Operand.tmp 6) 5, type := 0, pos := "ref.go:75", after := #[{ on := 0, ground := Ground.phase }, { on := 1, ground := Ground.phase }, { on := 2, ground := Ground.phase }, { on := 3, ground := Ground.phase }, { on := 4, ground := Ground.phase }, { on := 5, ground := Ground.phase }, { on := 6, ground := Ground.phase }, { on := 7, ground := Ground.phase }, { on := 8, ground := Ground.phase }, { on := 9, ground := Ground.phase }, { on := 10, ground := Ground.phase }], guard := none }) (v := ?v38) rfl (by kernel_rfl) (by kernel_rfl) (by kernel_rfl) (fun _ _ _ h => h) (Or.inl ⟨by rfl, ?hy38⟩) hHeld ?rest38
                    case hy38 => (intro w' hSw; (try dsimp only at hSw); go_simp; (try with_reducible rfl))
                    try simp only [Act.put, List.setIfInBounds_toArray, List.set_cons_zero, List.set_cons_succ]
                    refine wpAnyH_ready (rs := [12]) (by kernel_rfl) (by simp) (AllReadyH.cons (o := { dst := none, op := Op.store 67 (Operand.tmp 104) (Operand.tmp 103), type := 0, pos := "ref.go:75", after := #[{ on := 11, ground := Ground.data }, { on := 10, ground := Ground.data }, { on := 10, ground := Ground.chain }, { on := 0, ground := Ground.phase }, { on := 1, ground := Ground.phase }, { on := 2, ground := Ground.phase }, { on := 3, ground := Ground.phase }, { on := 4, ground := Ground.phase }, { on := 5, ground := Ground.phase }, { on := 6, ground := Ground.phase }, { on := 7, ground := Ground.phase }, { on := 8, ground := Ground.phase }, { on := 9, ground := Ground.phase }, { on := 10, ground := Ground.phase }], guard := none }) rfl (fun K hK => ?_) AllReadyH.nil)
                    go_simp
                    refine hK.out _ _ True.intro (fun hHeld' => ?_)
                    clear hK K hHeld
                    have hHeld := hHeld'
                    clear hHeld'
                    try simp only [Act.put, List.setIfInBounds_toArray, List.set_cons_zero, List.set_cons_succ]
                    refine wpAnyH_done (by kernel_rfl) ?_ _
                    go_wp2_with fail
                    go_meet
                    exact ⟨_, _, _, _, E1, E4⟩
              case rest =>
                obtain ⟨Ak', nk', ck', css', HD4, BU4⟩ := hcut
                have HD5 := Lib.hid (show DB B W0.heap.size wc g1 (.int .i64 0) (.slice Ap E cp) (.bool true) (.int .u64 vl) (.slice Ab' nb' cb') (.slice Ak' nk' ck') (d.app (.cons (bt k) T.1 T.2 .nil)).bytes css' (d.app (.cons (bt k) T.1 T.2 .nil)) from by rw [bytes_app]; exact HD4.out)
                have HM5 := Lib.hid (show mkF (cT 1 f) (grp (rel ee (ps.drop 1))) = (d.app (.cons (bt k) T.1 T.2 .nil)).app (mkF (cT 1 f) (grp (rel ee (ps.drop jj)))) ∧ (d.app (.cons (bt k) T.1 T.2 .nil)).len ≤ jj from ⟨by rw [HM.out.1, HGR.out, Fo.app_app]; rfl, by rw [Fo.len_app]; have := HM.out.2; show d.len + 1 ≤ jj; omega⟩)
                clear HD4 HD3 BU3 BV3 KB MR HC s16 HGR HM hWV
                generalize wc = V4 at HD5 BU4 ⊢
                go_wp2
                exact ⟨⟨jj, _, _, _, css', by omega, hj2, rfl, HD5, HM5, BU4⟩, by simp [intOf]; omega⟩
        · obtain rfl : k = n := by omega
          have hde : ps.drop k = [] := List.drop_of_length_le (by rw [HLN.out]; exact Nat.le_refl _)
          have hKd : mkF (cT 1 f) (grp (rel ee (ps.drop 1))) = d := by
            rw [HM.out.1, hde]
            exact Fo.app_nil d
          have hTT : cT 1 (f + 1) (rel q ps) = (⟨false, 1, part, vl, true⟩, d) := by rw [HTT.out, hKd]
          have hne : rel q ps ≠ [] := fun e => by have := congrArg List.length e; rw [rel_len, HLN.out] at this; simp at this; omega
          have hwf := (cT_wf 1 (f + 1) (rel q ps) hne HR.out (fun v hv => by
            obtain ⟨u, hu, rfl⟩ := List.mem_map.1 hv
            have := (HK.out u hu).2.2
            rw [List.length_drop]
            omega)).2
          rw [hTT] at hwf
          have hd256 : d.len ≤ 256 := bytes_few hwf
          obtain ⟨Ab, cb, e, _⟩ := HD.out.byt.slice
          subst e
          obtain ⟨Ak, ck, e, _⟩ := HD.out.kids.slice
          subst e
          have hcl : css.length = d.len := HD.out.dis.len
          have hkd := (kd_inner (x := ⟨false, 1, part, vl, true⟩) d rfl).1
          have CZ := Lib.hid (show Calls Tryz.prog 79 #[.int .i64 (css.length : Int)] wr fun e w' => e = .returned (.int .i64 (kindN d.len : Int)) ∧ w' = wr from by rw [hcl, ← kindZ_nat hd256]; exact rkindof_any wr _)
          have kk : Kept (· = g1) wr (wr.setCell ⟨g1, 0, none⟩ (.int .i64 (kindN d.len : Int))) := Kept.set_ _ _ _ rfl
          have hb0 : Blk (wr.setCell ⟨g1, 0, none⟩ (.int .i64 (kindN d.len : Int))) g1 #[.int .i64 (kindN d.len : Int), .slice Ap E cp, .bool true, .int .u64 vl, .slice Ab d.bytes.length cb, .slice Ak css.length ck] := by simpa using HD.out.blk.set_ 0 (.int .i64 (kindN d.len : Int))
          have hD5 := HD.out.turn kk hb0
          have hBU : Below W0.heap.size W0 (wr.setCell ⟨g1, 0, none⟩ (.int .i64 (kindN d.len : Int))) := HBr.out.trans (kk.below HBr.out.size (fun i e => by have := HG0.out; omega))
          have hBWU := BW.out.trans (hBU.mono BW.out.size)
          have hdn := (show DB B W0.heap.size (wr.setCell ⟨g1, 0, none⟩ (.int .i64 (kindN d.len : Int))) g1 (.int .i64 (kdV ⟨false, 1, part, vl, true⟩ d)) (.slice Ap E cp) (.bool true) (.int .u64 vl) (.slice Ab d.bytes.length cb) (.slice Ak css.length ck) d.bytes css d by rw [hkd]; exact hD5).done (x := ⟨false, 1, part, vl, true⟩) ((HPT.out _ hBWU).more (Nat.le_trans hB hBWU.size)) HPP.out HEC.out (lo := W0.heap.size) (Nat.le_refl _)
          rw [hkd] at hdn
          have hzz : Lst (wr.setCell ⟨g1, 0, none⟩ (.int .i64 (kindN d.len : Int))) w.heap.size [.int .i64 0, .slice none 0 0, .bool false, .int .u64 0, .slice none 0 0, .slice none 0 0] := Blk.below ZW.out hBU (by have := SW0.out; omega)
          obtain ⟨h1', h2', h3'⟩ := hand_over hdn hzz rfl hB (by have := SW0.out; omega) hBWU
          have HN6 := Lib.hid (node_six hdn).2
          have HTH := Lib.hid (Lst.there hzz (o := 0) (n := 6) (Nat.le_refl _))
          have H1 := Lib.hid h1'
          have H2 := Lib.hid h2'
          have H3 := Lib.hid h3'
          have HTE := Lib.hid hTT
          have k0 := HD.out.blk.cell 0
          have k1 := HD.out.blk.cell 1
          have k2 := HD.out.blk.cell 2
          have k3 := HD.out.blk.cell 3
          have k4 := HD.out.blk.cell 4
          have k5 := HD.out.blk.cell 5
          have z0 := HD.out.blk.fz 0
          clear hcl hde hKd hTT hne hwf hkd kk hb0 hD5 hBU hBWU hdn hzz h1' h2' h3' hBw HBw
          generalize (kindN d.len : Int) = kz at CZ HN6 HTH H1 H2 H3
          go_wp2_with fail
          (with_reducible refine CZ.out.mono ?_)
          rintro e w2 ⟨rfl, rfl⟩
          go_wp2_with (refine wpList_store_mid rfl 69 (.tmp 4) (.tmp 111) rfl w.heap.size 0 ([.int .i64 kz, .slice Ap E cp, .bool true, .int .u64 vl, .slice Ab d.bytes.length cb, .slice Ak css.length ck] : List Value).toArray (by rfl) (by rfl) HTH.out size_node HN6.out ?_)
          (try simp only [Exit.inBlock, Exit.then])
          refine bodyPost_ret (node_ret Tryz.f58 rfl _ H1.out rfl (by rfl)) (by rfl) ?_
          exact ⟨_, rfl, by rw [HTE.out]; exact H2.out, H3.out⟩
    · have HI0 := Lib.hid (show ∀ i u, 0 ≤ i → ps[i]? = some u → ee < u.key.length from fun i u _ hi => by
        rcases Nat.eq_zero_or_pos i with h | h
        · subst h
          rw [HE.out] at hi
          injection hi with hi
          subst hi
          have := HPN.out
          omega
        · exact HK1.out i u h hi)
      have HTT := Lib.hid (show cT 1 (f + 1) (rel q ps) = (⟨false, 1, part, 0, false⟩, mkF (cT 1 f) (grp (rel ee (ps.drop 0)))) by rw [HT.out, if_neg (by have := HEE.out; omega), List.drop_zero])
      have hpe' : ((p.n : Int) == (ee : Int)) = false := by rw [beq_eq_false_iff_ne]; omega
      clear hpn hpe hEp HT
      go_enter Tryz.func58, Tryz.ntmps58
      go_wp2_with fail
      (with_reducible refine (HSH.out W0 BW.out).mono ?_)
      rintro e V ⟨rfl, hV⟩
      have c1 := (C12.out V (BW.out.trans (hV.below _))).1
      obtain ⟨g1, hg1⟩ : ∃ g, V.heap.size = g := ⟨_, rfl⟩
      have hg0 : g1 = W0.heap.size := by rw [← hg1]; obtain ⟨t, rfl⟩ := hV; rfl
      have SW0 := Lib.hid sW0
      obtain ⟨W1, hW1⟩ : ∃ X, V.alloc (.cells #[.int .i64 0, .slice Ap E cp, .bool false, .int .u64 0, .slice none 0 0, .slice none 0 0] 69) = X := ⟨_, rfl⟩
      have D1 := Lib.hid (show DB B W0.heap.size W1 g1 (.int .i64 0) (.slice Ap E cp) (.bool false) (.int .u64 0) (.slice none 0 0) (.slice none 0 0) [] [] .nil from DB.start (by rw [← hW1, ← hg1]; exact Blk.new V _ _) (by omega) (by omega))
      have BW1 := Lib.hid (show Below W0.heap.size W0 W1 by rw [← hW1]; exact (hV.below _).alloc (by omega) _)
      have HW1 := Lib.hid hW1
      have HG0 := Lib.hid hg0
      have hBg : B ≤ g1 := by omega
      clear hV hW0 hW1 hg0 sW0
      go_upto_region 7 with fail
      rw [HW1.out]
      have c1 := (C12.out W1 (BW.out.trans (BW1.out.mono BW.out.size))).1
      go_wp2_with fail
      have D2 := Lib.hid D1.out
      have BW2 := Lib.hid BW1.out
      generalize W1 = W2 at D2 BW2 ⊢
      clear D1 BW1 HW1 W1 c1
      go_wp2_with fail
      go_loopw [7] (fun iv wr => ∃ (k : Nat) (d : Fo) (vb vk : Value) (css : List (List Value)), 0 ≤ k ∧ k ≤ n ∧ iv = .int .i64 k ∧ Hid (DB B W0.heap.size wr g1 (.int .i64 0) (.slice Ap E cp) (.bool false) (.int .u64 0) vb vk d.bytes css d) ∧ Hid (mkF (cT 1 f) (grp (rel ee (ps.drop 0))) = d.app (mkF (cT 1 f) (grp (rel ee (ps.drop k)))) ∧ d.len ≤ k) ∧ Hid (Below W0.heap.size W0 wr)) (fun iv _ => n - (intOf iv).toNat)
      case atStart => exact ⟨0, .nil, _, _, [], Nat.le_refl _, by omega, rfl, D2, Lib.hid ⟨rfl, Nat.zero_le _⟩, BW2⟩
      case round =>
        obtain ⟨k, d, vb, vk, css, hk0, hk, rfl, HD, HM, HBr⟩ := hrel
        have hBw := BW.out.trans (HBr.out.mono BW.out.size)
        have HBw := Lib.hid hBw
        by_cases h1 : k < n
        · obtain ⟨_, u, e0, _, eu, d1, _, bu⟩ := (HA.out wr hBw).at_ h1
          cases e0
          have hul := HI0.out k u hk0 eu
          have hun : u.n = u.key.length := bu.1.symm
          obtain ⟨adk, ub, hAu, _, eb, d2⟩ := bu.at_ (show ee < u.n by omega)
          have hbk := HBT.out k u eu hul
          rw [hbk] at eb
          injection eb with eb
          subst eb
          rw [hAu] at d1
          have HEU := Lib.hid eu
          have hkn : (k : Int) < (n : Int) := by omega
          have hun2 : ee < u.n := by omega
          have SS := Lib.hid (fun X (h : Below w.heap.size w X) => show X.cell? (ad.add (k * 2)) = some (.slice (some adk) u.n u.c) ∧ X.cell? (adk.add ee) = some (.int .u8 ((bt k).toNat : Int)) from by
            obtain ⟨_, u', e0, _, eu', f1, _, bu'⟩ := (HA.out X h).at_ h1
            cases e0
            rw [HEU.out] at eu'
            injection eu' with eu'
            subst eu'
            obtain ⟨adk', ub', hAu', _, eb', f2⟩ := bu'.at_ hun2
            rw [hAu] at hAu' f1
            injection hAu' with hAu'
            subst hAu'
            rw [HBT.out k u HEU.out (by omega)] at eb'
            injection eb' with eb'
            subst eb'
            exact ⟨f1, f2⟩)
          have HAU := Lib.hid hAu
          clear d1 d2 bu eu hbk hAu hun
          go_upto_block 2 with fail
          go_cut [8] (fun jv wc => ∃ jj : Nat, k < jj ∧ jj ≤ n ∧ jv = .int .i64 jj ∧ Hid ((∀ i, k ≤ i → i < jj → bt i = bt k) ∧ (∀ i, jj ≤ i → i < n → bt jj ≠ bt k)) ∧ Still wr wc)
          case first =>
            go_wp2_with fail
            go_loopw [8] (fun jv wq => ∃ jj : Nat, k ≤ jj ∧ jj ≤ n ∧ jv = .int .i64 jj ∧ Hid (∀ i, k ≤ i → i < jj → bt i = bt k) ∧ Still wr wq) (fun jv _ => n - (intOf jv).toNat)
            case atStart => exact ⟨k, Nat.le_refl _, hk, rfl, Lib.hid (fun i h2 h3 => by omega), Still.refl _⟩
            case round =>
              obtain ⟨jj, hj0, hj, rfl, HJ, tq, rfl⟩ := hrel
              obtain ⟨s1, s2⟩ := SS.out wr HBw.out
              by_cases h2 : jj < n
              · obtain ⟨_, v, e0, _, ev, f1, _, bv⟩ := (HA.out wr HBw.out).at_ h2
                cases e0
                have hvl := HI0.out jj v (by omega) ev
                have hvn : v.n = v.key.length := bv.1.symm
                obtain ⟨adj, vb', hAv, _, eb, f2⟩ := bv.at_ (show ee < v.n by omega)
                rw [HBT.out jj v ev hvl] at eb
                injection eb with eb
                subst eb
                rw [hAv] at f1
                have hvn2 : ee < v.n := by omega
                have hjn : (jj : Int) < (n : Int) := by omega
                have i0 : (0 : Int) ≤ (k : Int) := by omega
                have i1 : (0 : Int) ≤ (jj : Int) := by omega
                have i2 : (ee : Int) < (v.n : Int) := by omega
                have i3 : (ee : Int) < (u.n : Int) := by omega
                clear bv ev hAv hvn hvl
                by_cases hs : bt jj = bt k
                · have HJ2 := Lib.hid (show ∀ i, k ≤ i → i < jj + 1 → bt i = bt k from fun i h3 h4 => by
                    rcases Nat.lt_or_ge i jj with h | h
                    · exact HJ.out i h3 h
                    · have : i = jj := by omega
                      rw [this]; exact hs)
                  rw [hs] at f2
                  clear hs
                  generalize (bt k).toNat = bk at s2 f2
                  go_wp2_with fail
                  go_quiet (fail)
                  go_wp2
                  exact ⟨⟨jj + 1, by omega, by omega, by go_num, HJ2, (by repeat (first | exact Still.refl _ | apply Still.step))⟩, by simp [intOf]; omega⟩
                · have hne : k ≠ jj := fun e => hs (by rw [e])
                  have HJ3 := Lib.hid (show (∀ i, k ≤ i → i < jj → bt i = bt k) ∧ (∀ i, jj ≤ i → i < n → bt jj ≠ bt k) from ⟨HJ.out, fun i _ _ => hs⟩)
                  have hsb : (((bt jj).toNat : Int) == ((bt k).toNat : Int)) = false := by
                    rw [beq_eq_false_iff_ne]
                    exact fun e => hs (UInt8.toNat_inj.1 (by omega))
                  clear hs
                  generalize ((bt k).toNat : Int) = bk at s2 hsb
                  generalize ((bt jj).toNat : Int) = bj at f2 hsb
                  go_wp2_with fail
                  go_quiet (fail)
                  go_wp2_with fail
                  go_meet
                  exact ⟨jj, by omega, by omega, rfl, HJ3, (by repeat (first | exact Still.refl _ | apply Still.step))⟩
              · obtain rfl : jj = n := by omega
                have HJ3 := Lib.hid (show (∀ i, k ≤ i → i < jj → bt i = bt k) ∧ (∀ i, jj ≤ i → i < jj → bt jj ≠ bt k) from ⟨HJ.out, fun i _ _ => by omega⟩)
                go_wp2_with fail
                go_quiet (fail)
                go_wp2_with fail
                go_meet
                exact ⟨jj, by omega, Nat.le_refl _, rfl, HJ3, (by repeat (first | exact Still.refl _ | apply Still.step))⟩
          case rest =>
            obtain ⟨jj, hj1, hj2, rfl, HJ, hS⟩ := hcut
            have HD2 := Lib.hid (HD.out.still hS)
            have BV2 := Lib.hid (show Below w.heap.size w wc from HBw.out.trans (hS.below _))
            have BU2 := Lib.hid (show Below W0.heap.size W0 wc from HBr.out.trans (hS.below _))
            clear hS HBw hBw HBr HD
            generalize wc = V2 at HD2 BV2 BU2 ⊢
            obtain ⟨Ab, cb, e, _⟩ := HD2.out.byt.slice
            subst e
            obtain ⟨Ak, ck, e, _⟩ := HD2.out.kids.slice
            subst e
            have hdl : d.len ≤ 1000 := by have := HM.out.2; omega
            have hbl : d.bytes.length ≤ 1000 := by rw [Fo.bytes_len]; exact hdl
            have hcl : css.length ≤ 1000 := by rw [HD2.out.dis.len]; exact hdl
            have hWs : w.heap.size ≤ W0.heap.size := BW.out.size
            have hWV : W0.heap.size ≤ V2.heap.size := BU2.out.size
            have KB := Lib.hid (fun X (h : Below V2.heap.size V2 X) => show X.cell? ⟨g1, 4, none⟩ = some (.slice Ab d.bytes.length cb) from (HD2.out.below h).blk.cell 4)
            have S2 := Lib.hid (fun X (h : Below V2.heap.size V2 X) => SS.out X (BV2.out.trans (h.mono BV2.out.size)))
            have MR := Lib.hid (fun X (h : Below V2.heap.size V2 X) => (HD2.out.below h).byt)
            obtain ⟨bz, hbz⟩ : ∃ z : Int, ((bt k).toNat : Int) = z := ⟨_, rfl⟩
            have HBZ := Lib.hid hbz
            rw [hbz] at S2
            clear hbz
            go_upto_region 15 with fail
            go_cut [80] (fun v80 wc => ∃ (Ab' : Option Addr) (nb' cb' : Nat), Hid (DB B W0.heap.size wc g1 (.int .i64 0) (.slice Ap E cp) (.bool false) (.int .u64 0) (.slice Ab' nb' cb') (.slice Ak css.length ck) (d.bytes ++ [bt k]) css d) ∧ Hid (Below W0.heap.size W0 wc))
            case first =>
              refine wp_region_held_drew (S := (fun X => X.cell? (ad.add (k * 2)) = some (.slice (some adk) u.n u.c) ∧ X.cell? (adk.add ee) = some (.int .u8 bz))) (by kernel_rfl) (S2.out _ (Below.refl V2.heap.size V2).drew) (fun hHeld => ?_)
              refine wpAnyH_take (i := 0) (oi := { dst := some 80, op := Op.fieldAddr 69 (Operand.tmp 6) 4, type := 0, pos := "ref.go:74", after := #[], guard := none }) (v := ?v39) rfl (by kernel_rfl) (by kernel_rfl) (by kernel_rfl) (fun _ _ _ h => h) (Or.inl ⟨by rfl, ?hy39⟩) hHeld ?rest39
              case hy39 => (intro w' hSw; (try dsimp only at hSw); go_simp; (try with_reducible rfl))
              try simp only [Act.put, List.setIfInBounds_toArray, List.set_cons_zero, List.set_cons_succ]
              refine wpAnyH_take (i := 2) (oi := { dst := some 82, op := Op.move (Operand.tmp 0), type := 22, pos := "ref.go:74", after := #[], guard := none }) (v := ?v40) rfl (by kernel_rfl) (by kernel_rfl) (by kernel_rfl) (fun _ _ _ h => h) (Or.inl ⟨by rfl, ?hy40⟩) hHeld ?rest40
              case hy40 => (intro w' hSw; (try dsimp only at hSw); go_simp; (try with_reducible rfl))
              try simp only [Act.put, List.setIfInBounds_toArray, List.set_cons_zero, List.set_cons_succ]
              refine wpAnyH_take (i := 3) (oi := { dst := some 83, op := Op.move (Operand.tmp 7), type := 3, pos := "ref.go:74", after := #[], guard := none }) (v := ?v41) rfl (by kernel_rfl) (by kernel_rfl) (by kernel_rfl) (fun _ _ _ h => h) (Or.inl ⟨by rfl, ?hy41⟩) hHeld ?rest41
              case hy41 => (intro w' hSw; (try dsimp only at hSw); go_simp; (try with_reducible rfl))
              try simp only [Act.put, List.setIfInBounds_toArray, List.set_cons_zero, List.set_cons_succ]
              refine wpAnyH_take (i := 4) (oi := { dst := some 84, op := Op.indexAddr 22 (Operand.tmp 82) (Operand.tmp 83), type := 0, pos := "ref.go:74", after := #[{ on := 2, ground := Ground.data }, { on := 3, ground := Ground.data }], guard := none }) (v := ?v42) rfl (by kernel_rfl) (by kernel_rfl) (by kernel_rfl) (fun _ _ _ h => h) (Or.inl ⟨by rfl, ?hy42⟩) hHeld ?rest42
              case hy42 => (intro w' hSw; (try dsimp only at hSw); go_simp; (try with_reducible rfl))
              try simp only [Act.put, List.setIfInBounds_toArray, List.set_cons_zero, List.set_cons_succ]
              refine wpAnyH_take (i := 5) (oi := { dst := some 85, op := Op.fieldAddr 53 (Operand.tmp 84) 0, type := 0, pos := "ref.go:74", after := #[{ on := 4, ground := Ground.data }], guard := none }) (v := ?v43) rfl (by kernel_rfl) (by kernel_rfl) (by kernel_rfl) (fun _ _ _ h => h) (Or.inl ⟨by rfl, ?hy43⟩) hHeld ?rest43
              case hy43 => (intro w' hSw; (try dsimp only at hSw); go_simp; (try with_reducible rfl))
              try simp only [Act.put, List.setIfInBounds_toArray, List.set_cons_zero, List.set_cons_succ]
              refine wpAnyH_take (i := 6) (oi := { dst := some 86, op := Op.load 23 (Operand.tmp 85), type := 23, pos := "ref.go:74", after := #[{ on := 5, ground := Ground.data }], guard := none }) (v := ?v44) rfl (by kernel_rfl) (by kernel_rfl) (by kernel_rfl) (fun _ _ _ h => h) (Or.inl ⟨by rfl, ?hy44⟩) hHeld ?rest44
              case hy44 => (intro w' hSw; (try dsimp only at hSw); go_simp; (try with_reducible rfl))
              try simp only [Act.put, List.setIfInBounds_toArray, List.set_cons_zero, List.set_cons_succ]
              refine wpAnyH_take (i := 7) (oi := { dst := some 87, op := Op.move (Operand.tmp 5), type := 3, pos := "ref.go:74", after := #[], guard := none }) (v := ?v45) rfl (by kernel_rfl) (by kernel_rfl) (by kernel_rfl) (fun _ _ _ h => h) (Or.inl ⟨by rfl, ?hy45⟩) hHeld ?rest45
              case hy45 => (intro w' hSw; (try dsimp only at hSw); go_simp; (try with_reducible rfl))
              try simp only [Act.put, List.setIfInBounds_toArray, List.set_cons_zero, List.set_cons_succ]
              refine wpAnyH_take (i := 8) (oi := { dst := some 88, op := Op.indexAddr 23 (Operand.tmp 86) (Operand.tmp 87), type := 0, pos := "ref.go:74", after := #[{ on := 6, ground := Ground.data }, { on := 7, ground := Ground.data }], guard := none }) (v := ?v46) rfl (by kernel_rfl) (by kernel_rfl) (by kernel_rfl) (fun _ _ _ h => h) (Or.inl ⟨by rfl, ?hy46⟩) hHeld ?rest46
              case hy46 => (intro w' hSw; (try dsimp only at hSw); go_simp; (try with_reducible rfl))
              try simp only [Act.put, List.setIfInBounds_toArray, List.set_cons_zero, List.set_cons_succ]
              refine wpAnyH_take (i := 9) (oi := { dst := some 89, op := Op.load 5 (Operand.tmp 88), type := 5, pos := "ref.go:74", after := #[{ on := 8, ground := Ground.data }], guard := none }) (v := ?v47) rfl (by kernel_rfl) (by kernel_rfl) (by kernel_rfl) (fun _ _ _ h => h) (Or.inl ⟨by rfl, ?hy47⟩) hHeld ?rest47
              case hy47 => (intro w' hSw; (try dsimp only at hSw); go_simp; (try with_reducible rfl))
              try simp only [Act.put, List.setIfInBounds_toArray, List.set_cons_zero, List.set_cons_succ]
              refine wpAnyH_ready (rs := [1, 10]) (by kernel_rfl) (by simp) (AllReadyH.cons (o := { dst := some 81, op := Op.load 23 (Operand.tmp 80), type := 23, pos := "ref.go:74", after := #[{ on := 0, ground := Ground.data }], guard := none }) rfl (fun K hK => ?_) (AllReadyH.cons (o := { dst := some 90, op := Op.buildSlice 23 1 #[(0, Operand.tmp 89)], type := 23, pos := "ref.go:74", after := #[{ on := 9, ground := Ground.data }], guard := none }) rfl (fun K hK => ?_) AllReadyH.nil))
              · have cz := KB.out _ (Below.refl V2.heap.size V2).drew
                go_simp
                refine hK.out _ _ (S2.out _ (Below.refl V2.heap.size V2).drew) (fun hHeld' => ?_)
                clear hK K hHeld
                have hHeld := hHeld'
                clear hHeld'
                try simp only [Act.put, List.setIfInBounds_toArray, List.set_cons_zero, List.set_cons_succ]
                refine wpAnyH_ready (rs := [10]) (by kernel_rfl) (by simp) (AllReadyH.cons (o := { dst := some 90, op := Op.buildSlice 23 1 #[(0, Operand.tmp 89)], type := 23, pos := "ref.go:74", after := #[{ on := 9, ground := Ground.data }], guard := none }) rfl (fun K hK => ?_) AllReadyH.nil)
                go_simp
                obtain ⟨U3, hU3⟩ : ∃ W, (V2.alloc (.cells #[.int .u8 bz] 5)).drew = W := ⟨_, rfl⟩
                have B3 := Lib.hid (show Below V2.heap.size V2 U3 by rw [← hU3]; exact ((Below.refl V2.heap.size V2).alloc (Nat.le_refl _) _).drew)
                have LB := Lib.hid (show Blk U3 V2.heap.size #[.int .u8 bz] by rw [← hU3]; exact Blk.new _ _ _)
                rw [hU3]
                clear hU3
                refine hK.out _ _ (S2.out _ B3.out) (fun hHeld' => ?_)
                clear hK K hHeld
                have hHeld := hHeld'
                clear hHeld'
                try simp only [Act.put, List.setIfInBounds_toArray, List.set_cons_zero, List.set_cons_succ]
                refine wpAnyH_ready (rs := [11]) (by kernel_rfl) (by simp) (AllReadyH.cons (o := { dst := some 91, op := Op.call { callee := Callee.builtin Builtin.append, args := #[Operand.tmp 81, Operand.tmp 90], argTypes := #[23, 23] }, type := 23, pos := "ref.go:74", after := #[{ on := 1, ground := Ground.data }, { on := 10, ground := Ground.data }], guard := none }) rfl (fun K hK => ?_) AllReadyH.nil)
                rw [if_pos (by rfl)]
                refine wp_append_rws _ (.tmp 81) (.tmp 90) _ rfl Tryz.underlying23 info_u8r (by rfl) (by decide) W0.heap.size (.slice Ab d.bytes.length cb) d.bytes.length (d.bytes.map fun b => [.int .u8 (b.toNat : Int)]) (by rfl) (MR.out _ B3.out) ⟨V2.heap.size, 0, none⟩ 1 [.int .u8 bz] (by rfl) (by rfl) (lit_cells LB.out) (by intro u hu; simp at hu; subst hu; rfl) (by omega) (by unfold maxLen; omega) (by have := B3.out.size; omega) ?_
                intro v3 U4 m3 g3 o3
                obtain ⟨A3, c3, rfl, _⟩ := m3.slice
                rw [← HBZ.out] at m3
                obtain ⟨x1, x2, x3, x4, x5⟩ := HD2.out.addb B3.out m3 g3 o3
                have E1 := Lib.hid x3
                have E4 := Lib.hid (BU2.out.trans x4)
                have S4 := Lib.hid (SS.out U4 (BV2.out.trans (x5.mono hWs)))
                have S6 := Lib.hid (SS.out _ (BV2.out.trans (x4.mono hWs)))
                rw [HBZ.out] at S4 S6
                clear m3 g3 o3 x3 x4 x5
                refine hK.out _ _ S4.out (fun hHeld' => ?_)
                clear hK K hHeld
                have hHeld := hHeld'
                clear hHeld'
                try simp only [Act.put, List.setIfInBounds_toArray, List.set_cons_zero, List.set_cons_succ]
                refine wpAnyH_take (i := 12) (oi := { dst := some 92, op := Op.fieldAddr 69 (Operand.tmp 6) 4, type := 0, pos := "ref.go:74", after := #[{ on := 0, ground := Ground.phase }, { on := 1, ground := Ground.phase }, { on := 2, ground := Ground.phase }, { on := 3, ground := Ground.phase }, { on := 4, ground := Ground.phase }, { on := 5, ground := Ground.phase }, { on := 6, ground := Ground.phase }, { on := 7, ground := Ground.phase }, { on := 8, ground := Ground.phase }, { on := 9, ground := Ground.phase }, { on := 10, ground := Ground.phase }, { on := 11, ground := Ground.phase }], guard := none }) (v := ?v48) rfl (by kernel_rfl) (by kernel_rfl) (by kernel_rfl) (fun _ _ _ h => h) (Or.inl ⟨by rfl, ?hy48⟩) hHeld ?rest48
                case hy48 => (intro w' hSw; (try dsimp only at hSw); go_simp; (try with_reducible rfl))
                try simp only [Act.put, List.setIfInBounds_toArray, List.set_cons_zero, List.set_cons_succ]
                refine wpAnyH_ready (rs := [13]) (by kernel_rfl) (by simp) (AllReadyH.cons (o := { dst := none, op := Op.store 23 (Operand.tmp 92) (Operand.tmp 91), type := 0, pos := "ref.go:74", after := #[{ on := 12, ground := Ground.data }, { on := 11, ground := Ground.data }, { on := 11, ground := Ground.chain }, { on := 0, ground := Ground.phase }, { on := 1, ground := Ground.phase }, { on := 2, ground := Ground.phase }, { on := 3, ground := Ground.phase }, { on := 4, ground := Ground.phase }, { on := 5, ground := Ground.phase }, { on := 6, ground := Ground.phase }, { on := 7, ground := Ground.phase }, { on := 8, ground := Ground.phase }, { on := 9, ground := Ground.phase }, { on := 10, ground := Ground.phase }, { on := 11, ground := Ground.phase }], guard := none }) rfl (fun K hK => ?_) AllReadyH.nil)
                go_simp
                refine hK.out _ _ S6.out (fun hHeld' => ?_)
                clear hK K hHeld
                have hHeld := hHeld'
                clear hHeld'
                try simp only [Act.put, List.setIfInBounds_toArray, List.set_cons_zero, List.set_cons_succ]
                refine wpAnyH_done (by kernel_rfl) ?_ _
                go_wp2_with fail
                go_meet
                exact ⟨_, _, _, E1, E4⟩
              · go_simp
                obtain ⟨U3, hU3⟩ : ∃ W, (V2.alloc (.cells #[.int .u8 bz] 5)).drew = W := ⟨_, rfl⟩
                have B3 := Lib.hid (show Below V2.heap.size V2 U3 by rw [← hU3]; exact ((Below.refl V2.heap.size V2).alloc (Nat.le_refl _) _).drew)
                have LB := Lib.hid (show Blk U3 V2.heap.size #[.int .u8 bz] by rw [← hU3]; exact Blk.new _ _ _)
                rw [hU3]
                clear hU3
                refine hK.out _ _ (S2.out _ B3.out) (fun hHeld' => ?_)
                clear hK K hHeld
                have hHeld := hHeld'
                clear hHeld'
                try simp only [Act.put, List.setIfInBounds_toArray, List.set_cons_zero, List.set_cons_succ]
                refine wpAnyH_ready (rs := [1]) (by kernel_rfl) (by simp) (AllReadyH.cons (o := { dst := some 81, op := Op.load 23 (Operand.tmp 80), type := 23, pos := "ref.go:74", after := #[{ on := 0, ground := Ground.data }], guard := none }) rfl (fun K hK => ?_) AllReadyH.nil)
                have cz := KB.out _ B3.out
                go_simp
                refine hK.out _ _ (S2.out _ B3.out) (fun hHeld' => ?_)
                clear hK K hHeld
                have hHeld := hHeld'
                clear hHeld'
                try simp only [Act.put, List.setIfInBounds_toArray, List.set_cons_zero, List.set_cons_succ]
                refine wpAnyH_ready (rs := [11]) (by kernel_rfl) (by simp) (AllReadyH.cons (o := { dst := some 91, op := Op.call { callee := Callee.builtin Builtin.append, args := #[Operand.tmp 81, Operand.tmp 90], argTypes := #[23, 23] }, type := 23, pos := "ref.go:74", after := #[{ on := 1, ground := Ground.data }, { on := 10, ground := Ground.data }], guard := none }) rfl (fun K hK => ?_) AllReadyH.nil)
                rw [if_pos (by rfl)]
                refine wp_append_rws _ (.tmp 81) (.tmp 90) _ rfl Tryz.underlying23 info_u8r (by rfl) (by decide) W0.heap.size (.slice Ab d.bytes.length cb) d.bytes.length (d.bytes.map fun b => [.int .u8 (b.toNat : Int)]) (by rfl) (MR.out _ B3.out) ⟨V2.heap.size, 0, none⟩ 1 [.int .u8 bz] (by rfl) (by rfl) (lit_cells LB.out) (by intro u hu; simp at hu; subst hu; rfl) (by omega) (by unfold maxLen; omega) (by have := B3.out.size; omega) ?_
                intro v3 U4 m3 g3 o3
                obtain ⟨A3, c3, rfl, _⟩ := m3.slice
                rw [← HBZ.out] at m3
                obtain ⟨x1, x2, x3, x4, x5⟩ := HD2.out.addb B3.out m3 g3 o3
                have E1 := Lib.hid x3
                have E4 := Lib.hid (BU2.out.trans x4)
                have S4 := Lib.hid (SS.out U4 (BV2.out.trans (x5.mono hWs)))
                have S6 := Lib.hid (SS.out _ (BV2.out.trans (x4.mono hWs)))
                rw [HBZ.out] at S4 S6
                clear m3 g3 o3 x3 x4 x5
                refine hK.out _ _ S4.out (fun hHeld' => ?_)
                clear hK K hHeld
                have hHeld := hHeld'
                clear hHeld'
                try simp only [Act.put, List.setIfInBounds_toArray, List.set_cons_zero, List.set_cons_succ]
                refine wpAnyH_take (i := 12) (oi := { dst := some 92, op := Op.fieldAddr 69 (Operand.tmp 6) 4, type := 0, pos := "ref.go:74", after := #[{ on := 0, ground := Ground.phase }, { on := 1, ground := Ground.phase }, { on := 2, ground := Ground.phase }, { on := 3, ground := Ground.phase }, { on := 4, ground := Ground.phase }, { on := 5, ground := Ground.phase }, { on := 6, ground := Ground.phase }, { on := 7, ground := Ground.phase }, { on := 8, ground := Ground.phase }, { on := 9, ground := Ground.phase }, { on := 10, ground := Ground.phase }, { on := 11, ground := Ground.phase }], guard := none }) (v := ?v49) rfl (by kernel_rfl) (by kernel_rfl) (by kernel_rfl) (fun _ _ _ h => h) (Or.inl ⟨by rfl, ?hy49⟩) hHeld ?rest49
                case hy49 => (intro w' hSw; (try dsimp only at hSw); go_simp; (try with_reducible rfl))
                try simp only [Act.put, List.setIfInBounds_toArray, List.set_cons_zero, List.set_cons_succ]
                refine wpAnyH_ready (rs := [13]) (by kernel_rfl) (by simp) (AllReadyH.cons (o := { dst := none, op := Op.store 23 (Operand.tmp 92) (Operand.tmp 91), type := 0, pos := "ref.go:74", after := #[{ on := 12, ground := Ground.data }, { on := 11, ground := Ground.data }, { on := 11, ground := Ground.chain }, { on := 0, ground := Ground.phase }, { on := 1, ground := Ground.phase }, { on := 2, ground := Ground.phase }, { on := 3, ground := Ground.phase }, { on := 4, ground := Ground.phase }, { on := 5, ground := Ground.phase }, { on := 6, ground := Ground.phase }, { on := 7, ground := Ground.phase }, { on := 8, ground := Ground.phase }, { on := 9, ground := Ground.phase }, { on := 10, ground := Ground.phase }, { on := 11, ground := Ground.phase }], guard := none }) rfl (fun K hK => ?_) AllReadyH.nil)
                go_simp
                refine hK.out _ _ S6.out (fun hHeld' => ?_)
                clear hK K hHeld
                have hHeld := hHeld'
                clear hHeld'
                try simp only [Act.put, List.setIfInBounds_toArray, List.set_cons_zero, List.set_cons_succ]
                refine wpAnyH_done (by kernel_rfl) ?_ _
                go_wp2_with fail
                go_meet
                exact ⟨_, _, _, E1, E4⟩
            case rest =>
              obtain ⟨Ab', nb', cb', HD3, BU3⟩ := hcut
              clear HD2 KB S2 MR BV2 BU2 hWV SS hbl
              generalize wc = V3 at HD3 BU3 ⊢
              have BV3 := Lib.hid (show Below w.heap.size w V3 from BW.out.trans (BU3.out.mono BW.out.size))
              obtain ⟨T, hT⟩ : ∃ T, cT 1 f (rel (ee + 1) ((ps.drop k).take (jj - k))) = T := ⟨_, rfl⟩
              have hb0 : ∀ i v, (ps.drop k)[i]? = some v → v.key[ee]? = some (bt (k + i)) := fun i v hv => by
                rw [List.getElem?_drop] at hv
                exact HBT.out _ v hv (HI0.out _ v (by omega) hv)
              have hrk : Rise (rel ee (ps.drop k)) := by
                have := HRE.out
                unfold Rise rel at *
                rw [List.map_drop]
                exact this.sublist (List.drop_sublist _ _)
              have hgr : mkF (cT 1 f) (grp (rel ee (ps.drop k))) = .cons (bt k) T.1 T.2 (mkF (cT 1 f) (grp (rel ee (ps.drop jj)))) := by
                have h3 := grp_rel (bt := fun i => bt (k + i)) hb0 (j := jj - k) (by omega) (by rw [List.length_drop, HLN.out]; omega) (fun i hi => by show bt (k + i) = bt (k + 0); rw [HJ.out.1 (k + i) (by omega) (by omega)]; rfl) (fun i h3 h4 => by
                  show bt (k + i) ≠ bt (k + 0)
                  rw [List.length_drop, HLN.out] at h4
                  have m1 := rise_mono (bt := fun i => bt (k + i)) hb0 hrk 0 (jj - k) (by omega) (by rw [List.length_drop, HLN.out]; omega)
                  have m2 := rise_mono (bt := fun i => bt (k + i)) hb0 hrk (jj - k) i h3 (by rw [List.length_drop, HLN.out]; omega)
                  have m3 := HJ.out.2 jj (Nat.le_refl _) (by omega)
                  have m4 : (bt jj).toNat ≠ (bt k).toNat := fun e => m3 (UInt8.toNat_inj.1 e)
                  simp only [Nat.add_zero, show k + (jj - k) = jj by omega] at m1 m2
                  intro e
                  simp only [Nat.add_zero] at e
                  rw [e] at m2
                  omega)
                rw [h3, List.drop_drop, show k + (jj - k) = jj by omega]
                show Fo.cons (bt (k + 0)) _ _ _ = _
                rw [hT]
                rfl
              have HGR := Lib.hid hgr
              have s16 : ∀ W', (Instr.slice 22 (.slice (some ad) n c) (some (.int .i64 (k : Int))) (some (.int .i64 (jj : Int))) none).run Tryz.prog W' = .ok (.slice (cutA (some ad) k c 2) (jj - k) (c - k)) W' := fun W' => slc_mid (P := Tryz.prog) Tryz.underlying22 size_kpair (some ad) n c k jj (by omega) (by omega) W'
              have hpx : Prs V3.drew B (cutA (some ad) k c 2) (jj - k) ((ps.drop k).take (jj - k)) := by
                have h3 := ((HA.out V3.drew BV3.out.drew).take hj2).cut_ (c := c) k (by omega) (by omega)
                rwa [List.drop_take] at h3
              have HC := Lib.hid (show Calls Tryz.prog 58 #[.slice (cutA (some ad) k c 2) (jj - k) (c - k), .int .i64 ((ee : Int) + 1)] V3.drew (RBPost B V3.drew T) from by
                rw [show ((ee : Int) + 1) = ((ee + 1 : Nat) : Int) by omega, ← hT]
                refine ih (ee + 1) (jj - k) (c - k) B _ _ V3.drew hpx (fun v hv => HKP.out V3.drew BV3.out.drew v (List.mem_of_mem_drop (List.mem_of_mem_take hv))) (Nat.le_trans hB BV3.out.drew.size) (by omega) (by omega) (by omega) (fun v hv => ?_) (rise_same (bt := fun i => bt (k + i)) hb0 hrk (fun i hi => by show bt (k + i) = bt (k + 0); rw [HJ.out.1 (k + i) (by omega) (by omega)]; rfl)) ⟨p.key.take ee ++ [bt k], ?_, fun v hv => ?_⟩
                · obtain ⟨i, hi, hv2⟩ := mem_take_at hv
                  rw [List.getElem?_drop] at hv2
                  have h3 := HI0.out _ v (by omega) hv2
                  obtain ⟨h4, h5, h6⟩ := HK.out v (List.mem_of_getElem? hv2)
                  have := HEE.out
                  exact ⟨by omega, h5, by omega⟩
                · have h3 := lcp_le_left p.key p.key
                  rw [List.length_append, List.length_take]
                  have := HEPL.out
                  simp
                  omega
                · obtain ⟨i, hi, hv2⟩ := mem_take_at hv
                  have h3 := hb0 i v hv2
                  rw [HJ.out.1 (k + i) (by omega) (by omega)] at h3
                  exact take_more (HPS.out v (List.mem_of_mem_drop (List.mem_of_mem_take hv))) h3)
              obtain ⟨Ax, hAx⟩ : ∃ X, cutA (some ad) k c 2 = X := ⟨_, rfl⟩
              obtain ⟨mx, hmx⟩ : ∃ X, jj - k = X := ⟨_, rfl⟩
              obtain ⟨cx, hcx⟩ : ∃ X, c - k = X := ⟨_, rfl⟩
              rw [hAx, hmx, hcx] at s16 HC
              have KB := Lib.hid (fun X (h : Below V3.heap.size V3 X) => show X.cell? ⟨g1, 5, none⟩ = some (.slice Ak css.length ck) from (HD3.out.below h).blk.cell 5)
              have MR := Lib.hid (fun X (h : Below V3.heap.size V3 X) => (HD3.out.below h).kids)
              have hWV : W0.heap.size ≤ V3.heap.size := BU3.out.size
              clear hT hb0 hrk hgr hpx hAx hmx hcx
              go_upto_region 16 with fail
              go_cut [93] (fun v93 wc => ∃ (Ak' : Option Addr) (nk' ck' : Nat) (css' : List (List Value)), Hid (DB B W0.heap.size wc g1 (.int .i64 0) (.slice Ap E cp) (.bool false) (.int .u64 0) (.slice Ab' nb' cb') (.slice Ak' nk' ck') (d.bytes ++ [bt k]) css' (d.app (.cons (bt k) T.1 T.2 .nil))) ∧ Hid (Below W0.heap.size W0 wc))
              case first =>
                refine wp_region_held_drew (S := (fun _ => True)) (by kernel_rfl) True.intro (fun hHeld => ?_)
                refine wpAnyH_take (i := 0) (oi := { dst := some 93, op := Op.fieldAddr 69 (Operand.tmp 6) 5, type := 0, pos := "ref.go:75", after := #[], guard := none }) (v := ?v50) rfl (by kernel_rfl) (by kernel_rfl) (by kernel_rfl) (fun _ _ _ h => h) (Or.inl ⟨by rfl, ?hy50⟩) hHeld ?rest50
                case hy50 => (intro w' hSw; (try dsimp only at hSw); go_simp; (try with_reducible rfl))
                try simp only [Act.put, List.setIfInBounds_toArray, List.set_cons_zero, List.set_cons_succ]
                refine wpAnyH_take (i := 2) (oi := { dst := some 95, op := Op.move (Operand.tmp 0), type := 22, pos := "ref.go:75", after := #[], guard := none }) (v := ?v51) rfl (by kernel_rfl) (by kernel_rfl) (by kernel_rfl) (fun _ _ _ h => h) (Or.inl ⟨by rfl, ?hy51⟩) hHeld ?rest51
                case hy51 => (intro w' hSw; (try dsimp only at hSw); go_simp; (try with_reducible rfl))
                try simp only [Act.put, List.setIfInBounds_toArray, List.set_cons_zero, List.set_cons_succ]
                refine wpAnyH_take (i := 3) (oi := { dst := some 96, op := Op.move (Operand.tmp 7), type := 3, pos := "ref.go:75", after := #[], guard := none }) (v := ?v52) rfl (by kernel_rfl) (by kernel_rfl) (by kernel_rfl) (fun _ _ _ h => h) (Or.inl ⟨by rfl, ?hy52⟩) hHeld ?rest52
                case hy52 => (intro w' hSw; (try dsimp only at hSw); go_simp; (try with_reducible rfl))
                try simp only [Act.put, List.setIfInBounds_toArray, List.set_cons_zero, List.set_cons_succ]
                refine wpAnyH_take (i := 4) (oi := { dst := some 97, op := Op.move (Operand.tmp 8), type := 3, pos := "ref.go:75", after := #[], guard := none }) (v := ?v53) rfl (by kernel_rfl) (by kernel_rfl) (by kernel_rfl) (fun _ _ _ h => h) (Or.inl ⟨by rfl, ?hy53⟩) hHeld ?rest53
                case hy53 => (intro w' hSw; (try dsimp only at hSw); go_simp; (try with_reducible rfl))
                try simp only [Act.put, List.setIfInBounds_toArray, List.set_cons_zero, List.set_cons_succ]
                refine wpAnyH_take (i := 5) (oi := { dst := some 98, op := Op.slice 22 (Operand.tmp 95) (some (Operand.tmp 96)) (some (Operand.tmp 97)) none, type := 22, pos := "ref.go:75", after := #[{ on := 2, ground := Ground.data }, { on := 3, ground := Ground.data }, { on := 4, ground := Ground.data }], guard := none }) (v := ?v54) rfl (by kernel_rfl) (by kernel_rfl) (by kernel_rfl) (fun _ _ _ h => h) (Or.inl ⟨by rfl, ?hy54⟩) hHeld ?rest54
                case hy54 => (intro w' hSw; (try dsimp only at hSw); go_simp; (try with_reducible rfl))
                try simp only [Act.put, List.setIfInBounds_toArray, List.set_cons_zero, List.set_cons_succ]
                refine wpAnyH_take (i := 6) (oi := { dst := some 99, op := Op.move (Operand.tmp 5), type := 3, pos := "ref.go:75", after := #[], guard := none }) (v := ?v55) rfl (by kernel_rfl) (by kernel_rfl) (by kernel_rfl) (fun _ _ _ h => h) (Or.inl ⟨by rfl, ?hy55⟩) hHeld ?rest55
                case hy55 => (intro w' hSw; (try dsimp only at hSw); go_simp; (try with_reducible rfl))
                try simp only [Act.put, List.setIfInBounds_toArray, List.set_cons_zero, List.set_cons_succ]
                refine wpAnyH_take (i := 7) (oi := { dst := some 100, op := Op.binOp BinOp.add 3 (Operand.tmp 99) (Operand.const (Value.int IntKind.i64 1)) 3, type := 3, pos := "ref.go:75", after := #[{ on := 6, ground := Ground.data }], guard := none }) (v := ?v56) rfl (by kernel_rfl) (by kernel_rfl) (by kernel_rfl) (fun _ _ _ h => h) (Or.inl ⟨by rfl, ?hy56⟩) hHeld ?rest56
                case hy56 => (intro w' hSw; (try dsimp only at hSw); go_simp; (try with_reducible rfl))
                try simp only [Act.put, List.setIfInBounds_toArray, List.set_cons_zero, List.set_cons_succ]
                refine wpAnyH_ready (rs := [1, 8]) (by kernel_rfl) (by simp) (AllReadyH.cons (o := { dst := some 94, op := Op.load 67 (Operand.tmp 93), type := 67, pos := "ref.go:75", after := #[{ on := 0, ground := Ground.data }], guard := none }) rfl (fun K hK => ?_) (AllReadyH.cons (o := { dst := some 101, op := Op.call { callee := Callee.value (Operand.func 58), args := #[Operand.tmp 98, Operand.tmp 100], argTypes := #[22, 3] }, type := 69, pos := "ref.go:75", after := #[{ on := 5, ground := Ground.data }, { on := 7, ground := Ground.data }], guard := none }) rfl (fun K hK => ?_) AllReadyH.nil))
                · have cz := KB.out _ (Below.refl V3.heap.size V3).drew
                  go_simp
                  refine hK.out _ _ True.intro (fun hHeld' => ?_)
                  clear hK K hHeld
                  have hHeld := hHeld'
                  clear hHeld'
                  try simp only [Act.put, List.setIfInBounds_toArray, List.set_cons_zero, List.set_cons_succ]
                  refine wpAnyH_ready (rs := [8]) (by kernel_rfl) (by simp) (AllReadyH.cons (o := { dst := some 101, op := Op.call { callee := Callee.value (Operand.func 58), args := #[Operand.tmp 98, Operand.tmp 100], argTypes := #[22, 3] }, type := 69, pos := "ref.go:75", after := #[{ on := 5, ground := Ground.data }, { on := 7, ground := Ground.data }], guard := none }) rfl (fun K hK => ?_) AllReadyH.nil)
                  go_simp
                  (with_reducible refine HC.out.mono ?_)
                  rintro e U5 ⟨cs, rfl, y0, b5⟩
                  obtain ⟨dv, ek, rfl, y1, y2⟩ := y0
                  have X5 := Lib.hid (show DnoS U5 (fun i => i < B ∨ (V3.heap.size ≤ i ∧ i < U5.heap.size)) T.1 T.2 (dv.cells T.1 T.2) from ⟨dv, ek, rfl, y1, y2⟩)
                  have B5 := Lib.hid (show Below V3.heap.size V3 U5 from (Below.refl V3.heap.size V3).drew.trans b5)
                  clear y1 y2 b5
                  rw [show (dv.cells T.1 T.2).toArray = (dArr (kdV T.1 T.2) dv T.1.has T.1.val) from rfl]
                  go_wp2_with fail
                  refine hK.out _ _ True.intro (fun hHeld' => ?_)
                  clear hK K hHeld
                  have hHeld := hHeld'
                  clear hHeld'
                  try simp only [Act.put, List.setIfInBounds_toArray, List.set_cons_zero, List.set_cons_succ]
                  refine wpAnyH_ready (rs := [9]) (by kernel_rfl) (by simp) (AllReadyH.cons (o := { dst := some 102, op := Op.buildSlice 67 1 #[(0, Operand.tmp 101)], type := 67, pos := "ref.go:75", after := #[{ on := 8, ground := Ground.data }], guard := none }) rfl (fun K hK => ?_) AllReadyH.nil)
                  go_simp
                  obtain ⟨U6, hU6⟩ : ∃ W, U5.alloc (.cells (dArr (kdV T.1 T.2) dv T.1.has T.1.val) 69) = W := ⟨_, rfl⟩
                  have B56 := Lib.hid (show Below U5.heap.size U5 U6 by rw [← hU6]; exact (Below.refl U5.heap.size U5).alloc (Nat.le_refl _) _)
                  have B6 := Lib.hid (show Below V3.heap.size V3 U6 from B5.out.trans (B56.out.mono B5.out.size))
                  have LB := Lib.hid (show Blk U6 U5.heap.size (dArr (kdV T.1 T.2) dv T.1.has T.1.val) by rw [← hU6]; exact Blk.new _ _ _)
                  rw [hU6]
                  clear hU6
                  refine hK.out _ _ True.intro (fun hHeld' => ?_)
                  clear hK K hHeld
                  have hHeld := hHeld'
                  clear hHeld'
                  try simp only [Act.put, List.setIfInBounds_toArray, List.set_cons_zero, List.set_cons_succ]
                  refine wpAnyH_ready (rs := [10]) (by kernel_rfl) (by simp) (AllReadyH.cons (o := { dst := some 103, op := Op.call { callee := Callee.builtin Builtin.append, args := #[Operand.tmp 94, Operand.tmp 102], argTypes := #[67, 67] }, type := 67, pos := "ref.go:75", after := #[{ on := 1, ground := Ground.data }, { on := 9, ground := Ground.data }, { on := 8, ground := Ground.chain }], guard := none }) rfl (fun K hK => ?_) AllReadyH.nil)
                  rw [if_pos (by rfl)]
                  refine wp_append_rws _ (.tmp 94) (.tmp 102) _ rfl Tryz.underlying67 info_node (by rfl) (by decide) W0.heap.size (.slice Ak css.length ck) css.length css (by rfl) (MR.out _ B6.out) ⟨U5.heap.size, 0, none⟩ 1 (dv.cells T.1 T.2) (by rfl) (by rfl) (lit_cells (cs := dv.cells T.1 T.2) LB.out) (by intro u hu; simp [Dv.cells] at hu; rcases hu with rfl | rfl | rfl | rfl | rfl | rfl <;> rfl) (by omega) (by unfold maxLen; omega) (by have := B6.out.size; omega) ?_
                  intro v3 U7 m3 g3 o3
                  obtain ⟨A3, c3, rfl, _⟩ := m3.slice
                  obtain ⟨x1, x2, x3, x4, x5⟩ := HD3.out.addk B5.out X5.out B56.out (bt k) m3 g3 o3
                  have E1 := Lib.hid x3
                  have E4 := Lib.hid (BU3.out.trans x4)
                  clear m3 g3 o3 x3 x4 x5
                  refine hK.out _ _ True.intro (fun hHeld' => ?_)
                  clear hK K hHeld
                  have hHeld := hHeld'
                  clear hHeld'
                  try simp only [Act.put, List.setIfInBounds_toArray, List.set_cons_zero, List.set_cons_succ]
                  refine wpAnyH_take (i := 11) (oi := { dst := some 104, op := Op.fieldAddr 69 (Operand.tmp 6) 5, type := 0, pos := "ref.go:75", after := #[{ on := 0, ground := Ground.phase }, { on := 1, ground := Ground.phase }, { on := 2, ground := Ground.phase }, { on := 3, ground := Ground.phase }, { on := 4, ground := Ground.phase }, { on := 5, ground := Ground.phase }, { on := 6, ground := Ground.phase }, { on := 7, ground := Ground.phase }, { on := 8, ground := Ground.phase }, { on := 9, ground := Ground.phase }, { on := 10, ground := Ground.phase }], guard := none }) (v := ?v57) rfl (by kernel_rfl) (by kernel_rfl) (by kernel_rfl) (fun _ _ _ h => h) (Or.inl ⟨by rfl, ?hy57⟩) hHeld ?rest57
                  case hy57 => (intro w' hSw; (try dsimp only at hSw); go_simp; (try with_reducible rfl))
                  try simp only [Act.put, List.setIfInBounds_toArray, List.set_cons_zero, List.set_cons_succ]
                  refine wpAnyH_ready (rs := [12]) (by kernel_rfl) (by simp) (AllReadyH.cons (o := { dst := none, op := Op.store 67 (Operand.tmp 104) (Operand.tmp 103), type := 0, pos := "ref.go:75", after := #[{ on := 11, ground := Ground.data }, { on := 10, ground := Ground.data }, { on := 10, ground := Ground.chain }, { on := 0, ground := Ground.phase }, { on := 1, ground := Ground.phase }, { on := 2, ground := Ground.phase }, { on := 3, ground := Ground.phase }, { on := 4, ground := Ground.phase }, { on := 5, ground := Ground.phase }, { on := 6, ground := Ground.phase }, { on := 7, ground := Ground.phase }, { on := 8, ground := Ground.phase }, { on := 9, ground := Ground.phase }, { on := 10, ground := Ground.phase }], guard := none }) rfl (fun K hK => ?_) AllReadyH.nil)
                  go_simp
                  refine hK.out _ _ True.intro (fun hHeld' => ?_)
                  clear hK K hHeld
                  have hHeld := hHeld'
                  clear hHeld'
                  try simp only [Act.put, List.setIfInBounds_toArray, List.set_cons_zero, List.set_cons_succ]
                  refine wpAnyH_done (by kernel_rfl) ?_ _
                  go_wp2_with fail
                  go_meet
                  exact ⟨_, _, _, _, E1, E4⟩
                · go_simp
                  (with_reducible refine HC.out.mono ?_)
                  rintro e U5 ⟨cs, rfl, y0, b5⟩
                  obtain ⟨dv, ek, rfl, y1, y2⟩ := y0
                  have X5 := Lib.hid (show DnoS U5 (fun i => i < B ∨ (V3.heap.size ≤ i ∧ i < U5.heap.size)) T.1 T.2 (dv.cells T.1 T.2) from ⟨dv, ek, rfl, y1, y2⟩)
                  have B5 := Lib.hid (show Below V3.heap.size V3 U5 from (Below.refl V3.heap.size V3).drew.trans b5)
                  clear y1 y2 b5
                  rw [show (dv.cells T.1 T.2).toArray = (dArr (kdV T.1 T.2) dv T.1.has T.1.val) from rfl]
                  go_wp2_with fail
                  refine hK.out _ _ True.intro (fun hHeld' => ?_)
                  clear hK K hHeld
                  have hHeld := hHeld'
                  clear hHeld'
                  try simp only [Act.put, List.setIfInBounds_toArray, List.set_cons_zero, List.set_cons_succ]
                  refine wpAnyH_ready (rs := [1, 9]) (by kernel_rfl) (by simp) (AllReadyH.cons (o := { dst := some 94, op := Op.load 67 (Operand.tmp 93), type := 67, pos := "ref.go:75", after := #[{ on := 0, ground := Ground.data }], guard := none }) rfl (fun K hK => ?_) (AllReadyH.cons (o := { dst := some 102, op := Op.buildSlice 67 1 #[(0, Operand.tmp 101)], type := 67, pos := "ref.go:75", after := #[{ on := 8, ground := Ground.data }], guard := none }) rfl (fun K hK => ?_) AllReadyH.nil))
                  · have cz := KB.out _ B5.out
                    go_simp
                    refine hK.out _ _ True.intro (fun hHeld' => ?_)
                    clear hK K hHeld
                    have hHeld := hHeld'
                    clear hHeld'
                    try simp only [Act.put, List.setIfInBounds_toArray, List.set_cons_zero, List.set_cons_succ]
                    refine wpAnyH_ready (rs := [9]) (by kernel_rfl) (by simp) (AllReadyH.cons (o := { dst := some 102, op := Op.buildSlice 67 1 #[(0, Operand.tmp 101)], type := 67, pos := "ref.go:75", after := #[{ on := 8, ground := Ground.data }], guard := none }) rfl (fun K hK => ?_) AllReadyH.nil)
                    go_simp
                    obtain ⟨U6, hU6⟩ : ∃ W, U5.alloc (.cells (dArr (kdV T.1 T.2) dv T.1.has T.1.val) 69) = W := ⟨_, rfl⟩
                    have B56 := Lib.hid (show Below U5.heap.size U5 U6 by rw [← hU6]; exact (Below.refl U5.heap.size U5).alloc (Nat.le_refl _) _)
                    have B6 := Lib.hid (show Below V3.heap.size V3 U6 from B5.out.trans (B56.out.mono B5.out.size))
                    have LB := Lib.hid (show Blk U6 U5.heap.size (dArr (kdV T.1 T.2) dv T.1.has T.1.val) by rw [← hU6]; exact Blk.new _ _ _)
                    rw [hU6]
                    clear hU6
                    refine hK.out _ _ True.intro (fun hHeld' => ?_)
                    clear hK K hHeld
                    have hHeld := hHeld'
                    clear hHeld'
                    try simp only [Act.put, List.setIfInBounds_toArray, List.set_cons_zero, List.set_cons_succ]
                    refine wpAnyH_ready (rs := [10]) (by kernel_rfl) (by simp) (AllReadyH.cons (o := { dst := some 103, op := Op.call { callee := Callee.builtin Builtin.append, args := #[Operand.tmp 94, Operand.tmp 102], argTypes := #[67, 67] }, type := 67, pos := "ref.go:75", after := #[{ on := 1, ground := Ground.data }, { on := 9, ground := Ground.data }, { on := 8, ground := Ground.chain }], guard := none }) rfl (fun K hK => ?_) AllReadyH.nil)
                    rw [if_pos (by rfl)]
                    refine wp_append_rws _ (.tmp 94) (.tmp 102) _ rfl Tryz.underlying67 info_node (by rfl) (by decide) W0.heap.size (.slice Ak css.length ck) css.length css (by rfl) (MR.out _ B6.out) ⟨U5.heap.size, 0, none⟩ 1 (dv.cells T.1 T.2) (by rfl) (by rfl) (lit_cells (cs := dv.cells T.1 T.2) LB.out) (by intro u hu; simp [Dv.cells] at hu; rcases hu with rfl | rfl | rfl | rfl | rfl | rfl <;> rfl) (by omega) (by unfold maxLen; omega) (by have := B6.out.size; omega) ?_
                    intro v3 U7 m3 g3 o3
                    obtain ⟨A3, c3, rfl, _⟩ := m3.slice
                    obtain ⟨x1, x2, x3, x4, x5⟩ := HD3.out.addk B5.out X5.out B56.out (bt k) m3 g3 o3
                    have E1 := Lib.hid x3
                    have E4 := Lib.hid (BU3.out.trans x4)
                    clear m3 g3 o3 x3 x4 x5
                    refine hK.out _ _ True.intro (fun hHeld' => ?_)
                    clear hK K hHeld
                    have hHeld := hHeld'
                    clear hHeld'
                    try simp only [Act.put, List.setIfInBounds_toArray, List.set_cons_zero, List.set_cons_succ]
                    refine wpAnyH_take (i := 11) (oi := { dst := some 104, op := Op.fieldAddr 69 (Operand.tmp 6) 5, type := 0, pos := "ref.go:75", after := #[{ on := 0, ground := Ground.phase }, { on := 1, ground := Ground.phase }, { on := 2, ground := Ground.phase }, { on := 3, ground := Ground.phase }, { on := 4, ground := Ground.phase }, { on := 5, ground := Ground.phase }, { on := 6, ground := Ground.phase }, { on := 7, ground := Ground.phase }, { on := 8, ground := Ground.phase }, { on := 9, ground := Ground.phase }, { on := 10, ground := Ground.phase }], guard := none }) (v := ?v58) rfl (by kernel_rfl) (by kernel_rfl) (by kernel_rfl) (fun _ _ _ h => h) (Or.inl ⟨by rfl, ?hy58⟩) hHeld ?rest58
                    case hy58 => (intro w' hSw; (try dsimp only at hSw); go_simp; (try with_reducible rfl))
                    try simp only [Act.put, List.setIfInBounds_toArray, List.set_cons_zero, List.set_cons_succ]
                    refine wpAnyH_ready (rs := [12]) (by kernel_rfl) (by simp) (AllReadyH.cons (o := { dst := none, op := Op.store 67 (Operand.tmp 104) (Operand.tmp 103), type := 0, pos := "ref.go:75", after := #[{ on := 11, ground := Ground.data }, { on := 10, ground := Ground.data }, { on := 10, ground := Ground.chain }, { on := 0, ground := Ground.phase }, { on := 1, ground := Ground.phase }, { on := 2, ground := Ground.phase }, { on := 3, ground := Ground.phase }, { on := 4, ground := Ground.phase }, { on := 5, ground := Ground.phase }, { on := 6, ground := Ground.phase }, { on := 7, ground := Ground.phase }, { on := 8, ground := Ground.phase }, { on := 9, ground := Ground.phase }, { on := 10, ground := Ground.phase }], guard := none }) rfl (fun K hK => ?_) AllReadyH.nil)
                    go_simp
                    refine hK.out _ _ True.intro (fun hHeld' => ?_)
                    clear hK K hHeld
                    have hHeld := hHeld'
                    clear hHeld'
                    try simp only [Act.put, List.setIfInBounds_toArray, List.set_cons_zero, List.set_cons_succ]
                    refine wpAnyH_done (by kernel_rfl) ?_ _
                    go_wp2_with fail
                    go_meet
                    exact ⟨_, _, _, _, E1, E4⟩
                  · go_simp
                    obtain ⟨U6, hU6⟩ : ∃ W, U5.alloc (.cells (dArr (kdV T.1 T.2) dv T.1.has T.1.val) 69) = W := ⟨_, rfl⟩
                    have B56 := Lib.hid (show Below U5.heap.size U5 U6 by rw [← hU6]; exact (Below.refl U5.heap.size U5).alloc (Nat.le_refl _) _)
                    have B6 := Lib.hid (show Below V3.heap.size V3 U6 from B5.out.trans (B56.out.mono B5.out.size))
                    have LB := Lib.hid (show Blk U6 U5.heap.size (dArr (kdV T.1 T.2) dv T.1.has T.1.val) by rw [← hU6]; exact Blk.new _ _ _)
                    rw [hU6]
                    clear hU6
                    refine hK.out _ _ True.intro (fun hHeld' => ?_)
                    clear hK K hHeld
                    have hHeld := hHeld'
                    clear hHeld'
                    try simp only [Act.put, List.setIfInBounds_toArray, List.set_cons_zero, List.set_cons_succ]
                    refine wpAnyH_ready (rs := [1]) (by kernel_rfl) (by simp) (AllReadyH.cons (o := { dst := some 94, op := Op.load 67 (Operand.tmp 93), type := 67, pos := "ref.go:75", after := #[{ on := 0, ground := Ground.data }], guard := none }) rfl (fun K hK => ?_) AllReadyH.nil)
                    have cz := KB.out _ B6.out
                    go_simp
                    refine hK.out _ _ True.intro (fun hHeld' => ?_)
                    clear hK K hHeld
                    have hHeld := hHeld'
                    clear hHeld'
                    try simp only [Act.put, List.setIfInBounds_toArray, List.set_cons_zero, List.set_cons_succ]
                    refine wpAnyH_ready (rs := [10]) (by kernel_rfl) (by simp) (AllReadyH.cons (o := { dst := some 103, op := Op.call { callee := Callee.builtin Builtin.append, args := #[Operand.tmp 94, Operand.tmp 102], argTypes := #[67, 67] }, type := 67, pos := "ref.go:75", after := #[{ on := 1, ground := Ground.data }, { on := 9, ground := Ground.data }, { on := 8, ground := Ground.chain }], guard := none }) rfl (fun K hK => ?_) AllReadyH.nil)
                    rw [if_pos (by rfl)]
                    refine wp_append_rws _ (.tmp 94) (.tmp 102) _ rfl Tryz.underlying67 info_node (by rfl) (by decide) W0.heap.size (.slice Ak css.length ck) css.length css (by rfl) (MR.out _ B6.out) ⟨U5.heap.size, 0, none⟩ 1 (dv.cells T.1 T.2) (by rfl) (by rfl) (lit_cells (cs := dv.cells T.1 T.2) LB.out) (by intro u hu; simp [Dv.cells] at hu; rcases hu with rfl | rfl | rfl | rfl | rfl | rfl <;> rfl) (by omega) (by unfold maxLen; omega) (by have := B6.out.size; omega) ?_
                    intro v3 U7 m3 g3 o3
                    obtain ⟨A3, c3, rfl, _⟩ := m3.slice
                    obtain ⟨x1, x2, x3, x4, x5⟩ := HD3.out.addk B5.out X5.out B56.out (bt k) m3 g3 o3
                    have E1 := Lib.hid x3
                    have E4 := Lib.hid (BU3.out.trans x4)
                    clear m3 g3 o3 x3 x4 x5
                    refine hK.out _ _ True.intro (fun hHeld' => ?_)
                    clear hK K hHeld
                    have hHeld := hHeld'
                    clear hHeld'
                    try simp only [Act.put, List.setIfInBounds_toArray, List.set_cons_zero, List.set_cons_succ]
                    refine wpAnyH_take (i := 11) (oi := { dst := some 104, op := Op.fieldAddr 69 (Operand.tmp 6) 5, type := 0, pos := "ref.go:75", after := #[{ on := 0, ground := Ground.phase }, { on := 1, ground := Ground.phase }, { on := 2, ground := Ground.phase }, { on := 3, ground := Ground.phase }, { on := 4, ground := Ground.phase }, { on := 5, ground := Ground.phase }, { on := 6, ground := Ground.phase }, { on := 7, ground := Ground.phase }, { on := 8, ground := Ground.phase }, { on := 9, ground := Ground.phase }, { on := 10, ground := Ground.phase }], guard := none }) (v := ?v59) rfl (by kernel_rfl) (by kernel_rfl) (by kernel_rfl) (fun _ _ _ h => h) (Or.inl ⟨by rfl, ?hy59⟩) hHeld ?rest59
                    case hy59 => (intro w' hSw; (try dsimp only at hSw); go_simp; (try with_reducible rfl))
                    try simp only [Act.put, List.setIfInBounds_toArray, List.set_cons_zero, List.set_cons_succ]
                    refine wpAnyH_ready (rs := [12]) (by kernel_rfl) (by simp) (AllReadyH.cons (o := { dst := none, op := Op.store 67 (Operand.tmp 104) (Operand.tmp 103), type := 0, pos := "ref.go:75", after := #[{ on := 11, ground := Ground.data }, { on := 10, ground := Ground.data }, { on := 10, ground := Ground.chain }, { on := 0, ground := Ground.phase }, { on := 1, ground := Ground.phase }, { on := 2, ground := Ground.phase }, { on := 3, ground := Ground.phase }, { on := 4, ground := Ground.phase }, { on := 5, ground := Ground.phase }, { on := 6, ground := Ground.phase }, { on := 7, ground := Ground.phase }, { on := 8, ground := Ground.phase }, { on := 9, ground := Ground.phase }, { on := 10, ground := Ground.phase }], guard := none }) rfl (fun K hK => ?_) AllReadyH.nil)
                    go_simp
                    refine hK.out _ _ True.intro (fun hHeld' => ?_)
                    clear hK K hHeld
                    have hHeld := hHeld'
                    clear hHeld'
                    try simp only [Act.put, List.setIfInBounds_toArray, List.set_cons_zero, List.set_cons_succ]
                    refine wpAnyH_done (by kernel_rfl) ?_ _
                    go_wp2_with fail
                    go_meet
                    exact ⟨_, _, _, _, E1, E4⟩
              case rest =>
                obtain ⟨Ak', nk', ck', css', HD4, BU4⟩ := hcut
                have HD5 := Lib.hid (show DB B W0.heap.size wc g1 (.int .i64 0) (.slice Ap E cp) (.bool false) (.int .u64 0) (.slice Ab' nb' cb') (.slice Ak' nk' ck') (d.app (.cons (bt k) T.1 T.2 .nil)).bytes css' (d.app (.cons (bt k) T.1 T.2 .nil)) from by rw [bytes_app]; exact HD4.out)
                have HM5 := Lib.hid (show mkF (cT 1 f) (grp (rel ee (ps.drop 0))) = (d.app (.cons (bt k) T.1 T.2 .nil)).app (mkF (cT 1 f) (grp (rel ee (ps.drop jj)))) ∧ (d.app (.cons (bt k) T.1 T.2 .nil)).len ≤ jj from ⟨by rw [HM.out.1, HGR.out, Fo.app_app]; rfl, by rw [Fo.len_app]; have := HM.out.2; show d.len + 1 ≤ jj; omega⟩)
                clear HD4 HD3 BU3 BV3 KB MR HC s16 HGR HM hWV
                generalize wc = V4 at HD5 BU4 ⊢
                go_wp2
                exact ⟨⟨jj, _, _, _, css', by omega, hj2, rfl, HD5, HM5, BU4⟩, by simp [intOf]; omega⟩
        · obtain rfl : k = n := by omega
          have hde : ps.drop k = [] := List.drop_of_length_le (by rw [HLN.out]; exact Nat.le_refl _)
          have hKd : mkF (cT 1 f) (grp (rel ee (ps.drop 0))) = d := by
            rw [HM.out.1, hde]
            exact Fo.app_nil d
          have hTT : cT 1 (f + 1) (rel q ps) = (⟨false, 1, part, 0, false⟩, d) := by rw [HTT.out, hKd]
          have hne : rel q ps ≠ [] := fun e => by have := congrArg List.length e; rw [rel_len, HLN.out] at this; simp at this; omega
          have hwf := (cT_wf 1 (f + 1) (rel q ps) hne HR.out (fun v hv => by
            obtain ⟨u, hu, rfl⟩ := List.mem_map.1 hv
            have := (HK.out u hu).2.2
            rw [List.length_drop]
            omega)).2
          rw [hTT] at hwf
          have hd256 : d.len ≤ 256 := bytes_few hwf
          obtain ⟨Ab, cb, e, _⟩ := HD.out.byt.slice
          subst e
          obtain ⟨Ak, ck, e, _⟩ := HD.out.kids.slice
          subst e
          have hcl : css.length = d.len := HD.out.dis.len
          have hkd := (kd_inner (x := ⟨false, 1, part, 0, false⟩) d rfl).1
          have CZ := Lib.hid (show Calls Tryz.prog 79 #[.int .i64 (css.length : Int)] wr fun e w' => e = .returned (.int .i64 (kindN d.len : Int)) ∧ w' = wr from by rw [hcl, ← kindZ_nat hd256]; exact rkindof_any wr _)
          have kk : Kept (· = g1) wr (wr.setCell ⟨g1, 0, none⟩ (.int .i64 (kindN d.len : Int))) := Kept.set_ _ _ _ rfl
          have hb0 : Blk (wr.setCell ⟨g1, 0, none⟩ (.int .i64 (kindN d.len : Int))) g1 #[.int .i64 (kindN d.len : Int), .slice Ap E cp, .bool false, .int .u64 0, .slice Ab d.bytes.length cb, .slice Ak css.length ck] := by simpa using HD.out.blk.set_ 0 (.int .i64 (kindN d.len : Int))
          have hD5 := HD.out.turn kk hb0
          have hBU : Below W0.heap.size W0 (wr.setCell ⟨g1, 0, none⟩ (.int .i64 (kindN d.len : Int))) := HBr.out.trans (kk.below HBr.out.size (fun i e => by have := HG0.out; omega))
          have hBWU := BW.out.trans (hBU.mono BW.out.size)
          have hdn := (show DB B W0.heap.size (wr.setCell ⟨g1, 0, none⟩ (.int .i64 (kindN d.len : Int))) g1 (.int .i64 (kdV ⟨false, 1, part, 0, false⟩ d)) (.slice Ap E cp) (.bool false) (.int .u64 0) (.slice Ab d.bytes.length cb) (.slice Ak css.length ck) d.bytes css d by rw [hkd]; exact hD5).done (x := ⟨false, 1, part, 0, false⟩) ((HPT.out _ hBWU).more (Nat.le_trans hB hBWU.size)) HPP.out HEC.out (lo := W0.heap.size) (Nat.le_refl _)
          rw [hkd] at hdn
          have hzz : Lst (wr.setCell ⟨g1, 0, none⟩ (.int .i64 (kindN d.len : Int))) w.heap.size [.int .i64 0, .slice none 0 0, .bool false, .int .u64 0, .slice none 0 0, .slice none 0 0] := Blk.below ZW.out hBU (by have := SW0.out; omega)
          obtain ⟨h1', h2', h3'⟩ := hand_over hdn hzz rfl hB (by have := SW0.out; omega) hBWU
          have HN6 := Lib.hid (node_six hdn).2
          have HTH := Lib.hid (Lst.there hzz (o := 0) (n := 6) (Nat.le_refl _))
          have H1 := Lib.hid h1'
          have H2 := Lib.hid h2'
          have H3 := Lib.hid h3'
          have HTE := Lib.hid hTT
          have k0 := HD.out.blk.cell 0
          have k1 := HD.out.blk.cell 1
          have k2 := HD.out.blk.cell 2
          have k3 := HD.out.blk.cell 3
          have k4 := HD.out.blk.cell 4
          have k5 := HD.out.blk.cell 5
          have z0 := HD.out.blk.fz 0
          clear hcl hde hKd hTT hne hwf hkd kk hb0 hD5 hBU hBWU hdn hzz h1' h2' h3' hBw HBw
          generalize (kindN d.len : Int) = kz at CZ HN6 HTH H1 H2 H3
          go_wp2_with fail
          (with_reducible refine CZ.out.mono ?_)
          rintro e w2 ⟨rfl, rfl⟩
          go_wp2_with (refine wpList_store_mid rfl 69 (.tmp 4) (.tmp 111) rfl w.heap.size 0 ([.int .i64 kz, .slice Ap E cp, .bool false, .int .u64 0, .slice Ab d.bytes.length cb, .slice Ak css.length ck] : List Value).toArray (by rfl) (by rfl) HTH.out size_node HN6.out ?_)
          (try simp only [Exit.inBlock, Exit.then])
          refine bodyPost_ret (node_ret Tryz.f58 rfl _ H1.out rfl (by rfl)) (by rfl) ?_
          exact ⟨_, rfl, by rw [HTE.out]; exact H2.out, H3.out⟩
theorem rbuilds : ∀ f, RBOk f
  | 0 => fun q n c B A ps w ha _ _ _ _ h0 hk _ _ => by
    obtain ⟨ad, p, rfl, _, e1, _⟩ := ha.at_ h0
    have := (hk p (List.mem_of_getElem? e1)).2.2
    omega
  | f + 1 => rbuild_step (rbuilds f)
end Go.Proofs.YtajpipaooaemdaaGreatDoor
