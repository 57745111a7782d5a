/-
  Each of near's calls beside the document's own answer, at the canonical tree of pairs.
-/
import Derived.Test.YtidiinededalmaaGreatNrAlive
namespace Go.Proofs.YtidiinededalmaaGreat
open Go.RowKit Go.Shelf

theorem at_head {ps : List PV} : (ps.map kvP).head? = (atP ps 0).map kvP := by
  cases ps <;> rfl
theorem at_last {ps : List PV} {n : Nat} (h : ps.length = n) : (ps.map kvP).getLast? = (atP ps ((n : Int) - 1)).map kvP := by
  subst h
  rw [List.getLast?_map]
  congr 1
  unfold atP
  cases ps with
  | nil => rfl
  | cons p ps =>
    rw [if_neg (by simp), List.getLast?_eq_getElem?]
    congr 1
    simp
theorem at_ge {ps : List PV} (h : Rsn ps) (key : List UInt8) : (geL (ps.map kvP) key).head? = (atP ps (aheadN (ps.map kvP) key : Int)).map kvP := by
  rw [ge_head (rsn_kv h), List.getElem?_map]
  congr 1
theorem at_lt {ps : List PV} (h : Rsn ps) (key : List UInt8) : (ltL (ps.map kvP) key).getLast? = (atP ps ((aheadN (ps.map kvP) key : Int) - 1)).map kvP := by
  rw [lt_last (rsn_kv h)]
  unfold atP
  split
  · rename_i h0
    rw [h0, if_pos (by omega)]
    rfl
  · rename_i h0
    rw [if_neg (by omega), List.getElem?_map]
    congr 2
    omega
def QN (w : World) (F : FuncId) (args : Array Value) (p : PV) (b : Bool) : Prop := ∀ V, Below w.heap.size w V → Calls Tryz.prog F args V fun e w' => ∃ A c, e = .returned (.tuple #[.agg #[.slice A p.n c, .int .u64 p.val], .bool b]) ∧ Byt w' w'.heap.size A p.n p.key ∧ p.n ≤ c ∧ (∀ i, Pb A p.key i → V.heap.size ≤ i) ∧ Below V.heap.size V w'
def QR (w : World) (F : FuncId) (args : Array Value) (p : PV) (b : Bool) : Prop := ∀ V, Below w.heap.size w V → Calls Tryz.prog F args V fun e w' => e = .returned (.tuple #[.agg #[.slice p.A p.n p.c, .int .u64 p.val], .bool b]) ∧ Below V.heap.size V w'
def QY (w : World) (p : PV) : Prop := p.n = p.key.length ∧ ∀ V, Below w.heap.size w V → Byt V w.heap.size p.A p.n p.key
theorem NrPost.in_ {X w' : World} {o : Option KV} {e : Ending} (h : NrPost (fun _ => False) X o e w') {r : Option PV} (hr : o = r.map kvP) (hy : (pvO r).n = (pvO r).key.length) :
    ∃ A c, e = .returned (.tuple #[.agg #[.slice A (pvO r).n c, .int .u64 (pvO r).val], .bool r.isSome]) ∧ Byt w' w'.heap.size A (pvO r).n (pvO r).key ∧ (pvO r).n ≤ c ∧ (∀ i, Pb A (pvO r).key i → X.heap.size ≤ i) ∧ Below X.heap.size X w' := by
  obtain ⟨A, c, h1, h2, h3, h4, h5⟩ := h
  subst hr
  have e1 : oK (r.map kvP) = (pvO r).key := by cases r <;> rfl
  have e2 : oV (r.map kvP) = (pvO r).val := by cases r <;> rfl
  have e3 : (r.map kvP).isSome = r.isSome := by cases r <;> rfl
  rw [e1, e2, e3, ← hy] at h1
  rw [e1, ← hy] at h2
  rw [e1, ← hy] at h3
  rw [e1] at h4
  exact ⟨A, c, h1, h2, h3, h4, h5.below (Nat.le_refl _) (fun _ q => q.elim)⟩
theorem qy_of {w : World} {B n : Nat} {A : Option Addr} {ps : List PV} (h : Prs w B A n ps) (hB : B ≤ w.heap.size) {i : Int} {r : Option PV} (hr : atP ps i = r) : QY w (pvO r) := by
  subst hr
  unfold atP
  split
  · exact ⟨rfl, fun V _ => Byt.none_⟩
  · cases hp : ps[i.toNat]? with
    | none => exact ⟨rfl, fun V _ => Byt.none_⟩
    | some p =>
      have hb := h.2.2.1 _ p hp
      exact ⟨hb.1.symm, fun V hV => (hb.more hB).below hV⟩
section
variable {ps : List PV} (ok : NT ps) {w : World} {q A : Option Addr} {n c B : Nat} (ht : OTre w (· < w.heap.size) (nrT ps) q) (hp : Prs w B A n ps) (hB : B ≤ w.heap.size) (hn : n ≤ 300)
include ok ht hp hB hn
theorem qmin : ∃ p b, QN w 10 #[.pointer q] p b ∧ QR w 11 #[.slice A n c] p b ∧ QY w p := by
  obtain ⟨r, hr2⟩ : ∃ r, atP ps (0) = r := ⟨_, rfl⟩
  have hy := qy_of hp hB hr2
  refine ⟨pvO r, r.isSome, fun V hV => ?_, fun V hV => ?_, hy⟩
  · have h := nmin_any (nrT ps) q V (ht.below hV) ok.full ok.len
    rw [ok.list, at_head, hr2] at h
    exact h.mono fun e w' h => h.in_ rfl hy.1
  · exact rmin_any A n c B ps V (hp.below (hV.mono hB)) (Nat.le_trans hB hV.size) (by omega) r hr2
theorem qmax : ∃ p b, QN w 12 #[.pointer q] p b ∧ QR w 13 #[.slice A n c] p b ∧ QY w p := by
  obtain ⟨r, hr2⟩ : ∃ r, atP ps ((n : Int) - 1) = r := ⟨_, rfl⟩
  have hy := qy_of hp hB hr2
  refine ⟨pvO r, r.isSome, fun V hV => ?_, fun V hV => ?_, hy⟩
  · have h := nmax_any (nrT ps) q V (ht.below hV) ok.full ok.len
    rw [ok.list, at_last hp.1, hr2] at h
    exact h.mono fun e w' h => h.in_ rfl hy.1
  · exact rmax_any A n c B ps V (hp.below (hV.mono hB)) (Nat.le_trans hB hV.size) (by omega) r hr2
theorem qfloor (hr : Rsn ps) {A' : Option Addr} {n' c' : Nat} {key : List UInt8} (hk : Byt w w.heap.size A' n' key) (hn' : n' ≤ 600) : ∃ p b, QN w 15 #[.pointer q, .slice A' n' c'] p b ∧ QR w 16 #[.slice A n c, .slice A' n' c'] p b ∧ QY w p := by
  obtain ⟨r, hr2⟩ : ∃ r, atP ps ((aheadN (ps.map kvP) (key ++ [0]) : Int) - 1) = r := ⟨_, rfl⟩
  have hy := qy_of hp hB hr2
  refine ⟨pvO r, r.isSome, fun V hV => ?_, fun V hV => ?_, hy⟩
  · have h := nfloor_any (nrT ps) q A' n' c' key V (ht.below hV) ok.wf ok.full ok.len ((hk.below hV).more hV.size) (by omega)
    rw [ok.list, at_lt hr, hr2] at h
    exact h.mono fun e w' h => h.in_ rfl hy.1
  · exact rfloor_any A A' n c n' c' w.heap.size ps key V ((hp.more hB).below hV) (hk.below hV) hV.size (by omega) hr r hr2
theorem qceil (hr : Rsn ps) {A' : Option Addr} {n' c' : Nat} {key : List UInt8} (hk : Byt w w.heap.size A' n' key) (hnc : n' ≤ c') (hn' : n' ≤ 600) : ∃ p b, QN w 17 #[.pointer q, .slice A' n' c'] p b ∧ QR w 18 #[.slice A n c, .slice A' n' c'] p b ∧ QY w p := by
  obtain ⟨r, hr2⟩ : ∃ r, atP ps ((aheadN (ps.map kvP) key : Int)) = r := ⟨_, rfl⟩
  have hy := qy_of hp hB hr2
  refine ⟨pvO r, r.isSome, fun V hV => ?_, fun V hV => ?_, hy⟩
  · have h := nceil_any (nrT ps) q A' n' c' key V (ht.below hV) ok.wf ok.full ok.len ((hk.below hV).more hV.size) hnc (by omega)
    rw [ok.list, at_ge hr, hr2] at h
    exact h.mono fun e w' h => h.in_ rfl hy.1
  · exact rceil_any A A' n c n' c' w.heap.size ps key V ((hp.more hB).below hV) (hk.below hV) hV.size (by omega) hr r hr2
theorem qlower (hr : Rsn ps) {A' : Option Addr} {n' c' : Nat} {key : List UInt8} (hk : Byt w w.heap.size A' n' key) (hnc : n' ≤ c') (hn' : n' ≤ 600) : ∃ p b, QN w 19 #[.pointer q, .slice A' n' c'] p b ∧ QR w 20 #[.slice A n c, .slice A' n' c'] p b ∧ QY w p := by
  obtain ⟨r, hr2⟩ : ∃ r, atP ps ((aheadN (ps.map kvP) key : Int) - 1) = r := ⟨_, rfl⟩
  have hy := qy_of hp hB hr2
  refine ⟨pvO r, r.isSome, fun V hV => ?_, fun V hV => ?_, hy⟩
  · have h := nlower_any (nrT ps) q A' n' c' key V (ht.below hV) ok.wf ok.full ok.len ((hk.below hV).more hV.size) hnc (by omega)
    rw [ok.list, at_lt hr, hr2] at h
    exact h.mono fun e w' h => h.in_ rfl hy.1
  · exact rlower_any A A' n c n' c' w.heap.size ps key V ((hp.more hB).below hV) (hk.below hV) hV.size (by omega) hr r hr2
theorem qhigher (hr : Rsn ps) {A' : Option Addr} {n' c' : Nat} {key : List UInt8} (hk : Byt w w.heap.size A' n' key) (hn' : n' ≤ 600) : ∃ p b, QN w 21 #[.pointer q, .slice A' n' c'] p b ∧ QR w 22 #[.slice A n c, .slice A' n' c'] p b ∧ QY w p := by
  obtain ⟨r, hr2⟩ : ∃ r, atP ps ((aheadN (ps.map kvP) (key ++ [0]) : Int)) = r := ⟨_, rfl⟩
  have hy := qy_of hp hB hr2
  refine ⟨pvO r, r.isSome, fun V hV => ?_, fun V hV => ?_, hy⟩
  · have h := nhigher_any (nrT ps) q A' n' c' key V (ht.below hV) ok.wf ok.full ok.len ((hk.below hV).more hV.size) (by omega)
    rw [ok.list, at_ge hr, hr2] at h
    exact h.mono fun e w' h => h.in_ rfl hy.1
  · exact rhigher_any A A' n c n' c' w.heap.size ps key V ((hp.more hB).below hV) (hk.below hV) hV.size (by omega) hr r hr2
end
end Go.Proofs.YtidiinededalmaaGreat
