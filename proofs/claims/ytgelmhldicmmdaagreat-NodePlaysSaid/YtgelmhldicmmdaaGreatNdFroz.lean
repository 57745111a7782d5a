/-
  What is asked of a node by one who may not write to it; what one who may has written.
-/
import Derived.Test.YtgelmhldicmmdaaGreatNdAlive
import Derived.Test.YtgelmhldicmmdaaGreatR1
import Derived.Test.YtgelmhldicmmdaaGreatBdPure
namespace Go.Proofs.YtgelmhldicmmdaaGreat
open Go.RowKit

theorem set_same {α : Type} {l : List α} {k : Nat} {a : α} (h : l[k]? = some a) : l.set k a = l := by
  apply List.ext_getElem?
  intro i
  rw [List.getElem?_set]
  split
  · rename_i e
    subst e
    rw [if_pos (List.getElem?_eq_some_iff.1 h).1, h]
  · rfl
section
variable {w w' : World} {B : Nat} {N : Nat → Prop} {l : List (Nat × Nd)} {g k : Nat} {x : Nd} {o : Int}
set_option maxRecDepth 100000 in
theorem Ns.f_setval (h : Ns w B N l) (hk : l[k]? = some (g, x)) (hB : B ≤ w.heap.size) (hN : ∀ i, N i → i < w.heap.size) (hm : mineB x.ow o = false) (v : Int) :
    Calls Tryz.prog 12 #[.pointer (some ⟨g, 0, none⟩), .int .u64 o, .int .u64 v] w fun e w' => e = .returned (.int .i64 11) ∧ Ns w' B N l ∧ Kept (fun i => B ≤ i ∧ ¬ N i) w w' := by
  have := h.setval hk hB hN o v
  simp only [closN, nSetVal, hm, Bool.false_eq_true, if_false, set_same hk] at this
  exact this
set_option maxRecDepth 100000 in
theorem Ns.f_dropval (h : Ns w B N l) (hk : l[k]? = some (g, x)) (hB : B ≤ w.heap.size) (hN : ∀ i, N i → i < w.heap.size) (hm : mineB x.ow o = false) :
    Calls Tryz.prog 50 #[.pointer (some ⟨g, 0, none⟩), .int .u64 o] w fun e w' => e = .returned (.int .i64 11) ∧ Ns w' B N l ∧ Kept (fun i => B ≤ i ∧ ¬ N i) w w' := by
  have := h.dropval hk hB hN o
  simp only [dropVN, nDropVal, hm, Bool.false_and, Bool.false_eq_true, if_false, set_same hk] at this
  exact this
set_option maxRecDepth 100000 in
theorem Ns.f_setpart (h : Ns w B N l) (hk : l[k]? = some (g, x)) (hB : B ≤ w.heap.size) (hN : ∀ i, N i → i < w.heap.size) (hm : mineB x.ow o = false) (A' : Option Addr) (n c B' : Nat) (p : List UInt8) (ha : Byt w B' A' n p) (hB' : B' ≤ w.heap.size) (hn : n ≤ 140737488355328) :
    Calls Tryz.prog 47 #[.pointer (some ⟨g, 0, none⟩), .int .u64 o, .slice A' n c] w fun e w' => e = .returned (.int .i64 11) ∧ Ns w' B N l ∧ Kept (fun i => B ≤ i ∧ ¬ N i) w w' := by
  have := h.setpart hk hB hN o A' n c B' p ha hB' hn
  simp only [closN, nSetPart, hm, Bool.false_eq_true, if_false, set_same hk] at this
  exact this
set_option maxRecDepth 100000 in
theorem Ns.f_dropkid (h : Ns w B N l) (hk : l[k]? = some (g, x)) (hB : B ≤ w.heap.size) (hN : ∀ i, N i → i < w.heap.size) (hm : mineB x.ow o = false) (c : UInt8) (z : Int) (hz : z = (c.toNat : Int)) :
    Calls Tryz.prog 53 #[.pointer (some ⟨g, 0, none⟩), .int .u64 o, .int .u8 z] w fun e w' => e = .returned (.int .i64 11) ∧ Ns w' B N l ∧ Kept (fun i => B ≤ i ∧ ¬ N i) w w' := by
  have := h.dropkid hk hB hN o c z hz
  simp only [dropKN, nDropKid, hm, Bool.false_and, Bool.false_eq_true, if_false, set_same hk] at this
  exact this
set_option maxRecDepth 100000 in
theorem Ns.f_setkid (h : Ns w B N l) {j g2 : Nat} {x2 : Nd} (hk : l[k]? = some (g, x)) (hj : l[j]? = some (g2, x2)) (hB : B ≤ w.heap.size) (hN : ∀ i, N i → i < w.heap.size) (hm : mineB x.ow o = false) (c : UInt8) (z : Int) (hz : z = (c.toNat : Int)) :
    Calls Tryz.prog 11 #[.pointer (some ⟨g, 0, none⟩), .int .u64 o, .int .u8 z, .pointer (some ⟨g2, 0, none⟩)] w fun e w' => e = .returned (.int .i64 11) ∧ Ns w' B N l ∧ Kept (fun i => B ≤ i ∧ ¬ N i) w w' := by
  have := h.setkid hk hj hB hN o c z hz
  simp only [setKN, nSetKid, hm, Bool.false_and, Bool.false_eq_true, if_false, set_same hk] at this
  exact this
set_option maxRecDepth 100000 in
/-- By its owner. -/
theorem Ns.y_setval (h : Ns w B N l) (hk : l[k]? = some (g, x)) (hB : B ≤ w.heap.size) (hN : ∀ i, N i → i < w.heap.size) (hm : mineB x.ow o = true) (v : Int) :
    Calls Tryz.prog 12 #[.pointer (some ⟨g, 0, none⟩), .int .u64 o, .int .u64 v] w fun e w' => e = .returned (.int .i64 0) ∧ Ns w' B N (l.set k (g, { x with has := true, val := v })) ∧ Kept (fun i => B ≤ i ∧ ¬ N i) w w' := by
  have := h.setval hk hB hN o v
  simp only [closN, nSetVal, hm, if_true] at this
  exact this
set_option maxRecDepth 100000 in
theorem Ns.y_setpart (h : Ns w B N l) (hk : l[k]? = some (g, x)) (hB : B ≤ w.heap.size) (hN : ∀ i, N i → i < w.heap.size) (hm : mineB x.ow o = true) (A' : Option Addr) (n c B' : Nat) (p : List UInt8) (ha : Byt w B' A' n p) (hB' : B' ≤ w.heap.size) (hn : n ≤ 140737488355328) :
    Calls Tryz.prog 47 #[.pointer (some ⟨g, 0, none⟩), .int .u64 o, .slice A' n c] w fun e w' => e = .returned (.int .i64 0) ∧ Ns w' B N (l.set k (g, { x with part := p })) ∧ Kept (fun i => B ≤ i ∧ ¬ N i) w w' := by
  have := h.setpart hk hB hN o A' n c B' p ha hB' hn
  simp only [closN, nSetPart, hm, if_true] at this
  exact this
set_option maxRecDepth 100000 in
theorem Ns.y_setkid (h : Ns w B N l) {j g2 : Nat} {x2 : Nd} (hk : l[k]? = some (g, x)) (hj : l[j]? = some (g2, x2)) (hB : B ≤ w.heap.size) (hN : ∀ i, N i → i < w.heap.size) (hm : mineB x.ow o = true) (hl : x.leaf = false) (c : UInt8) (z : Int) (hz : z = (c.toNat : Int)) :
    Calls Tryz.prog 11 #[.pointer (some ⟨g, 0, none⟩), .int .u64 o, .int .u8 z, .pointer (some ⟨g2, 0, none⟩)] w fun e w' => e = .returned (.int .i64 0) ∧ Ns w' B N (l.set k (g, { x with es := setE x.es c (some ⟨g2, 0, none⟩) })) ∧ Kept (fun i => B ≤ i ∧ ¬ N i) w w' := by
  have := h.setkid hk hj hB hN o c z hz
  rw [show setKN x o (some ⟨g2, 0, none⟩) = 0 by simp [setKN, hm, hl], show nSetKid x o c (some ⟨g2, 0, none⟩) = { x with es := setE x.es c (some ⟨g2, 0, none⟩) } from if_pos (by simp [hm, hl])] at this
  exact this
set_option maxRecDepth 100000 in
theorem Ns.y_dropkid (h : Ns w B N l) (hk : l[k]? = some (g, x)) (hB : B ≤ w.heap.size) (hN : ∀ i, N i → i < w.heap.size) (hm : mineB x.ow o = true) (hl : x.leaf = false) (c : UInt8) (z : Int) (hz : z = (c.toNat : Int)) :
    Calls Tryz.prog 53 #[.pointer (some ⟨g, 0, none⟩), .int .u64 o, .int .u8 z] w fun e w' => (∃ n : Int, e = .returned (.int .i64 n)) ∧ Ns w' B N (l.set k (g, { x with es := dropE x.es c })) ∧ Kept (fun i => B ≤ i ∧ ¬ N i) w w' := by
  have := h.dropkid hk hB hN o c z hz
  rw [show nDropKid x o c = { x with es := dropE x.es c } from if_pos (by simp [hm, hl])] at this
  exact this.mono fun _ _ ⟨a, b⟩ => ⟨⟨_, a⟩, b⟩
theorem Ns.up_ (h : Ns w B N l) (hk : l[k]? = some (g, x)) : Up x.es := by obtain ⟨_, _, hn⟩ := h.at_ hk; exact hn.up
set_option maxRecDepth 100000 in
theorem Ns.part_ (h : Ns w B N l) (hk : l[k]? = some (g, x)) : Calls Tryz.prog 29 #[.pointer (some ⟨g, 0, none⟩)] w (ClPost w x.part) := by obtain ⟨_, _, hn⟩ := h.at_ hk; exact npart_any hn
set_option maxRecDepth 100000 in
theorem Ns.val_ (h : Ns w B N l) (hk : l[k]? = some (g, x)) : Calls Tryz.prog 14 #[.pointer (some ⟨g, 0, none⟩)] w fun e w' => e = .returned (.tuple #[.int .u64 x.val, .bool x.has]) ∧ Still w w' := by obtain ⟨_, _, hn⟩ := h.at_ hk; exact val_any hn
set_option maxRecDepth 100000 in
theorem Ns.len_ (h : Ns w B N l) (hk : l[k]? = some (g, x)) : Calls Tryz.prog 30 #[.pointer (some ⟨g, 0, none⟩)] w fun e w' => e = .returned (.int .i64 (x.es.length : Int)) ∧ Still w w' := by obtain ⟨_, _, hn⟩ := h.at_ hk; exact nlen_any hn
set_option maxRecDepth 100000 in
theorem Ns.kind_ (h : Ns w B N l) (hk : l[k]? = some (g, x)) : Calls Tryz.prog 15 #[.pointer (some ⟨g, 0, none⟩)] w fun e w' => e = .returned (.int .i64 (kindD x)) ∧ Still w w' := by obtain ⟨_, _, hn⟩ := h.at_ hk; exact nkind_any hn
set_option maxRecDepth 100000 in
theorem Ns.kid_ (h : Ns w B N l) (hk : l[k]? = some (g, x)) (c : UInt8) (z : Int) (hz : z = (c.toNat : Int)) : Calls Tryz.prog 13 #[.pointer (some ⟨g, 0, none⟩), .int .u8 z] w fun e w' => e = .returned (.pointer (getE x.es c.toNat)) ∧ Still w w' := by obtain ⟨_, _, hn⟩ := h.at_ hk; exact nkid_any hn c z hz
set_option maxRecDepth 100000 in
theorem Ns.owner_ (h : Ns w B N l) (hk : l[k]? = some (g, x)) : Calls Tryz.prog 27 #[.pointer (some ⟨g, 0, none⟩)] w fun e w' => e = .returned (.int .u64 x.ow) ∧ w' = w := by obtain ⟨_, _, hn⟩ := h.at_ hk; exact owner_any hn
end
/-- A node's address held against itself. -/
theorem run_equalIn_self {P : Program} (d : Nat) (t : TypeId) (p : Option Addr) (W : World) (h : P.underlying t = some (.pointer (P.pointee t))) (hi : (P.info? (P.pointee t)).isSome = true) : (Op.equalIn (d + 1) t (.pointer p) (.pointer p)).run P W = .ok true W := by
  obtain ⟨i, hi⟩ := Option.isSome_iff_exists.1 hi
  cases p <;> simp [Op.equalIn, run_underlying h, samePointer, sameAddr, sizeOf, typeInfo, hi]
theorem run_equal_self {P : Program} (t : TypeId) (p : Option Addr) (W : World) (h : P.underlying t = some (.pointer (P.pointee t))) (hi : (P.info? (P.pointee t)).isSome = true) : (Op.equal t (.pointer p) (.pointer p)).run P W = .ok true W := run_equalIn_self 9999 t p W h hi
set_option maxRecDepth 100000 in
theorem eql_self (t : Option Addr) (W : World) : (binOp .eql 46 (.pointer t) (.pointer t)).run Tryz.prog W = .ok (.bool true) W := by
  simp only [binOp]
  simp [run_equal_self (P := Tryz.prog) 46 t W (by kernel_rfl) (by kernel_rfl)]
set_option maxRecDepth 100000 in
theorem neq_self (t : Option Addr) (W : World) : (binOp .neq 46 (.pointer t) (.pointer t)).run Tryz.prog W = .ok (.bool false) W := by
  simp only [binOp]
  simp [run_equal_self (P := Tryz.prog) 46 t W (by kernel_rfl) (by kernel_rfl)]
theorem set_one (b : UInt8) (k : Th) : setE [] b k = [(b, k)] := by simp [setE, hasE, look, pos]
theorem get_one (b : UInt8) (k : Th) : getE [(b, k)] b.toNat = k := by simp [getE, look, pos]
end Go.Proofs.YtgelmhldicmmdaaGreat
