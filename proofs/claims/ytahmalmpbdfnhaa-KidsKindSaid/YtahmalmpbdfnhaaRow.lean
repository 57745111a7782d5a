/-
  How arguments are read: a slice of bytes that came in, as a list of bytes.
  How arguments are read: a slice of steps that came in, each a yes or no, a byte, how many, and a number.
-/
import Derived.Test.YtahmalmpbdfnhaaRows
import Derived.Test.YtahmalmpbdfnhaaMem
import Derived.ProofKit
import Derived.OpenShut
import Derived.ShutString
import Derived.ChangeOld
import Derived.Deep.Slices
import Derived.Deep.Strs
namespace Go.Proofs.Ytahmalmpbdfnhaa
open Go.ChangeShapes Go.WideShapes Go.ChangeAt Go.RowKit
open Go.ChangeMaps (open_string shut_string)

set_option maxRecDepth 100000 in
theorem own : ownKnob Try.prog.godebug = none := by kernel_rfl
set_option maxRecDepth 100000 in
theorem laidOut : laidOutB Try.prog = true := by kernel_rfl
set_option maxRecDepth 100000 in
theorem cells_u8 : Try.prog.cellsOf 5 = 1 := by kernel_rfl

theorem lt_of_cell {w : World} {a : Addr} {v : Value} (h : w.cell? a = some v) : a.block < w.heap.size := by
  rcases Nat.lt_or_ge a.block w.heap.size with hlt | hge
  · exact hlt
  · simp [World.cell?, Array.getElem?_eq_none hge] at h

/-- The bytes of a row of numbers. -/
theorem byt_of_cells {w : World} {x : Addr} {zs : List Int} {len cap : Nat} (hl : len ≤ cap) (hm : cap ≤ maxLen) (hz : zs.length = cap)
    (hc : ∀ i, i < zs.length → w.cell? (x.add i) = some (.int .u8 (zs.getD i 0))) (hw : ∀ n ∈ zs, (Lit.int .u8 n).wf = true) :
    ∃ l, Byt w w.heap.size (some x) len l := by
  refine ⟨(zs.take len).map fun n => UInt8.ofNat n.toNat, by simp; omega, by omega, fun hn => ⟨x, rfl, ?_, fun j u hu => ?_⟩⟩
  · have := lt_of_cell (hc 0 (by omega))
    rwa [block_of_add] at this
  · rw [List.getElem?_map, List.getElem?_take] at hu
    split at hu
    · rename_i hj
      have hjz : j < zs.length := by omega
      rw [List.getElem?_eq_getElem hjz] at hu
      simp only [Option.map_some, Option.some.injEq] at hu
      subst hu
      rw [hc j hjz]
      have hwf := hw zs[j] (List.getElem_mem hjz)
      have hb : 0 ≤ zs[j] ∧ zs[j] ≤ 255 := by simpa [Lit.wf, IntKind.min, IntKind.max, IntKind.signed, IntKind.bits] using hwf
      have e : zs.getD j 0 = zs[j] := by simp [List.getD, List.getElem?_eq_getElem hjz]
      rw [e, UInt8.toNat_ofNat', Nat.mod_eq_of_lt (by simp; omega)]
      congr 2
      omega
    · simp at hu

set_option maxRecDepth 100000 in
theorem open_byt {H : Type} {enc : TypeId × Value → H} {W : World} {base : Nat} {v : Value} {d : DataW H} {p : List MemPlace}
    (hok : Value.okWide Try.prog W .any base 48 v) (h : DataW.Trod enc Try.prog W 0 (fun _ => true) true 48 v d p) :
    ∃ A n c l, v = .slice A n c ∧ Byt W W.heap.size A n l ∧ n ≤ c := by
  obtain ⟨a0, len0, cap0, rfl⟩ := okWide_slice Try.underlying48 hok
  obtain ⟨fuel, hf⟩ := h
  rcases open_ints Try.underlying48 Try.underlying5 cells_u8 hf with ⟨hcs, _⟩ | ⟨x, l, c, zs, hcs, _, hl, hm, hz, _, hcell, hwz⟩
  · simp [Value.cells] at hcs
    obtain ⟨rfl, rfl, rfl⟩ := hcs
    exact ⟨none, 0, 0, [], rfl, Byt.none_, Nat.le_refl _⟩
  · simp [Value.cells] at hcs
    obtain ⟨rfl, rfl, rfl⟩ := hcs
    obtain ⟨bl, hb⟩ := byt_of_cells hl hm (by simpa using hz) hcell hwz
    exact ⟨_, _, _, bl, rfl, hb, hl⟩
end Go.Proofs.Ytahmalmpbdfnhaa

namespace Go.Proofs.Ytahmalmpbdfnhaa
open Go.ChangeShapes Go.WideShapes Go.ChangeAt Go.RowKit

structure Stp where
  d : Bool
  b : UInt8
  m : UInt8
  x : Int

/-- The slice value '.slice A n c' holds the steps ss, and lies below block B. -/
def Sts (w : World) (B : Nat) (A : Option Addr) (n : Nat) (ss : List Stp) : Prop :=
  ss.length = n ∧ n ≤ maxLen ∧ (∀ s ∈ ss, -9223372036854775808 ≤ s.x ∧ s.x ≤ 9223372036854775807) ∧
    (0 < n → ∃ ad, A = some ad ∧ ad.block < B ∧ ∀ (j : Nat) (s : Stp), ss[j]? = some s → w.cell? (ad.add (j * 4)) = some (.bool s.d) ∧ w.cell? (ad.add (j * 4 + 1)) = some (.int .u8 (s.b.toNat : Int)) ∧ w.cell? (ad.add (j * 4 + 2)) = some (.int .u8 (s.m.toNat : Int)) ∧ w.cell? (ad.add (j * 4 + 3)) = some (.int .i64 s.x))

section
variable {w w' : World} {B n : Nat} {A : Option Addr} {ss : List Stp}
theorem Sts.none_ : Sts w B A 0 [] := ⟨rfl, by unfold maxLen; omega, (fun _ h => by cases h), fun h => absurd h (by omega)⟩
theorem Sts.at_ {k : Nat} (h : Sts w B A n ss) (hk : k < n) : ∃ (ad : Addr) (s : Stp), A = some ad ∧ ad.block < B ∧ ss[k]? = some s ∧ (-9223372036854775808 ≤ s.x ∧ s.x ≤ 9223372036854775807) ∧ w.cell? (ad.add (k * 4)) = some (.bool s.d) ∧ w.cell? (ad.add (k * 4 + 1)) = some (.int .u8 (s.b.toNat : Int)) ∧ w.cell? (ad.add (k * 4 + 2)) = some (.int .u8 (s.m.toNat : Int)) ∧ w.cell? (ad.add (k * 4 + 3)) = some (.int .i64 s.x) := by
  obtain ⟨ad, e, hb, hc⟩ := h.2.2.2 (by omega)
  have hl : k < ss.length := by have := h.1; omega
  have hp := List.getElem?_eq_getElem hl
  exact ⟨ad, ss[k], e, hb, hp, h.2.2.1 _ (List.getElem_mem hl), hc k _ hp⟩
theorem Sts.below (h : Sts w B A n ss) (hb : Below B w w') : Sts w' B A n ss :=
  ⟨h.1, h.2.1, h.2.2.1, fun hn => by
    obtain ⟨ad, e, hlt, hc⟩ := h.2.2.2 hn
    refine ⟨ad, e, hlt, fun j s hj => ?_⟩
    have k := fun o => hb.cell (p := ad.add o) (by rw [block_of_add]; exact hlt)
    exact ⟨(k _).trans (hc j s hj).1, (k _).trans (hc j s hj).2.1, (k _).trans (hc j s hj).2.2.1, (k _).trans (hc j s hj).2.2.2⟩⟩
end

/-- Of something for each place below m a list. -/
theorem list_for {α : Type} {m : Nat} {Q : Nat → α → Prop} (h : ∀ i, i < m → ∃ a, Q i a) : ∃ l : List α, l.length = m ∧ ∀ (i : Nat) (a : α), l[i]? = some a → Q i a := by
  induction m with
  | zero => exact ⟨[], rfl, fun i a h => by simp at h⟩
  | succ m ih =>
    obtain ⟨l, hl, hq⟩ := ih (fun i hi => h i (by omega))
    obtain ⟨a, ha⟩ := h m (by omega)
    refine ⟨l ++ [a], by simp [hl], fun i b hb => ?_⟩
    by_cases e : i < l.length
    · rw [List.getElem?_append_left e] at hb; exact hq i b hb
    · rw [List.getElem?_append_right (by omega)] at hb
      have : i - l.length = 0 := by
        have := (List.getElem?_eq_some_iff.1 hb).1; simp at this; omega
      rw [this] at hb
      simp at hb
      subst hb
      obtain rfl : i = m := by omega
      exact ha
set_option maxRecDepth 100000 in
theorem cells_step : Try.prog.cellsOf 32 = 4 := by kernel_rfl
set_option maxRecDepth 100000 in
theorem cells_bool : Try.prog.cellsOf 4 = 1 := by kernel_rfl
set_option maxRecDepth 100000 in
theorem cells_int : Try.prog.cellsOf 3 = 1 := by kernel_rfl

set_option maxRecDepth 100000 in
theorem open_sts {H : Type} {enc : TypeId × Value → H} {W : World} {base : Nat} {v : Value} {d : DataW H} {p : List MemPlace}
    (hok : Value.okWide Try.prog W .any base 22 v) (h : DataW.Trod enc Try.prog W 0 (fun _ => true) true 22 v d p) :
    ∃ A n c ss, v = .slice A n c ∧ Sts W W.heap.size A n ss ∧ n ≤ c := by
  obtain ⟨a0, len0, cap0, rfl⟩ := okWide_slice Try.underlying22 hok
  obtain ⟨fuel, hf⟩ := h
  rcases Go.Deep.open_slice Try.underlying22 hf with ⟨hcs, _⟩ | ⟨a, len, cap, m, n, D, Pl, hcs, _, hl, hm, hmm, _, hi⟩
  · simp [Value.cells] at hcs
    obtain ⟨rfl, rfl, rfl⟩ := hcs
    exact ⟨none, 0, 0, [], rfl, Sts.none_, Nat.le_refl _⟩
  · simp [Value.cells] at hcs
    obtain ⟨rfl, rfl, rfl⟩ := hcs
    simp only [if_true] at hmm
    subst hmm
    rw [cells_step] at hi
    obtain ⟨ss, hss, hq⟩ := list_for (α := Stp) (m := len0) (Q := fun j s => (-9223372036854775808 ≤ s.x ∧ s.x ≤ 9223372036854775807) ∧ W.cell? (a.add (j * 4)) = some (.bool s.d) ∧ W.cell? (a.add (j * 4 + 1)) = some (.int .u8 (s.b.toNat : Int)) ∧ W.cell? (a.add (j * 4 + 2)) = some (.int .u8 (s.m.toNat : Int)) ∧ W.cell? (a.add (j * 4 + 3)) = some (.int .i64 s.x)) (fun j hj => by
      obtain ⟨cs', hc, ht'⟩ := hi j (by omega)
      obtain ⟨xs, n', _, _, hlen, hsz, hg⟩ := DataW.trod_struct Try.underlying32 ht'
      have hsz' : xs.length = 4 := hsz
      have hy0 := hg 0 _ rfl
      have hy1 := hg 1 _ rfl
      have hy2 := hg 2 _ rfl
      have hy3 := hg 3 _ rfl
      rw [List.getElem?_eq_getElem (by omega)] at hy0 hy1 hy2 hy3
      rw [cells_step] at hlen
      obtain ⟨_, _, hat⟩ := World.cells?_some hc
      match cs', hlen with
      | [x0, x1, x2, x3], _ =>
        have e0 := hat 0 (by omega)
        have e1 := hat 1 (by omega)
        have e2 := hat 2 (by omega)
        have e3 := hat 3 (by omega)
        simp [cells_bool] at hy0
        simp [cells_u8] at hy1
        simp [cells_u8] at hy2
        simp [cells_int] at hy3
        obtain ⟨z0, hz0, _⟩ := DataW.trod_bool Try.underlying4 hy0
        obtain ⟨z1, hz1, _, wz1⟩ := DataW.trod_int Try.underlying5 hy1
        obtain ⟨z2, hz2, _, wz2⟩ := DataW.trod_int Try.underlying5 hy2
        obtain ⟨z3, hz3, _, wz3⟩ := DataW.trod_int Try.underlying3 hy3
        simp at hz0 hz1 hz2 hz3
        subst hz0 hz1 hz2 hz3
        have h1 : 0 ≤ z1 ∧ z1 ≤ 255 := by simpa [Lit.wf, IntKind.min, IntKind.max, IntKind.signed, IntKind.bits] using wz1
        have h2 : 0 ≤ z2 ∧ z2 ≤ 255 := by simpa [Lit.wf, IntKind.min, IntKind.max, IntKind.signed, IntKind.bits] using wz2
        have h3 : -9223372036854775808 ≤ z3 ∧ z3 ≤ 9223372036854775807 := by simpa [Lit.wf, IntKind.min, IntKind.max, IntKind.signed, IntKind.bits] using wz3
        rw [add_of_add] at e0 e1 e2 e3
        refine ⟨⟨z0, UInt8.ofNat z1.toNat, UInt8.ofNat z2.toNat, z3⟩, h3, by simpa using e0, ?_, ?_, by simpa using e3⟩
        · rw [show ((UInt8.ofNat z1.toNat).toNat : Int) = z1 from by rw [UInt8.toNat_ofNat']; omega]
          simpa using e1
        · rw [show ((UInt8.ofNat z2.toNat).toNat : Int) = z2 from by rw [UInt8.toNat_ofNat']; omega]
          simpa using e2)
    refine ⟨_, _, _, ss, rfl, ⟨hss, by omega, fun s hs => ?_, fun hn => ⟨a, rfl, ?_, fun j s hj => (hq j s hj).2⟩⟩, hl⟩
    · obtain ⟨i, hi⟩ := List.mem_iff_getElem?.1 hs
      exact (hq i s hi).1
    · have hp0 : ss[0]? = some (ss[0]'(by omega)) := List.getElem?_eq_getElem (by omega)
      have := lt_of_cell (hq 0 _ hp0).2.1
      rwa [block_of_add] at this
end Go.Proofs.Ytahmalmpbdfnhaa
