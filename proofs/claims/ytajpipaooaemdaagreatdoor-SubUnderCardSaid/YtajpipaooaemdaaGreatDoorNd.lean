/-
  The parts of sync.Once and of sync/atomic, each a contract of its own, in a run of one goroutine: the lock, the two calls that are deferred by the slow road, loads, stores and sums.
  Package meter's counters, and the document's: what each call tells, and what it writes.
  Words for a node in memory: its own block, the block of its kids and what stands for them, its part; what keeps it.
  What a node tells, and what a nil one tells.
-/
import Derived.Test.YtajpipaooaemdaaGreatDoorMem
import Derived.Tactics
import Derived.Tactics2
import Derived.Defers
import Derived.Recover
import Derived.Laws.Pointers
import Derived.Laws.LoneSync
import Derived.RegionTactic
import Derived.RegionCalls
import Derived.Test.YtajpipaooaemdaaGreatDoorProg
import Derived.Lib.Hide
import Derived.Test.YtajpipaooaemdaaGreatDoorKdTurn
namespace Go.Proofs.YtajpipaooaemdaaGreatDoor
open Go.RowKit

set_option maxRecDepth 100000 in
theorem load_i64 {a : Addr} {x : Int} {w : World} (hc : w.cell? a = some (.int .i64 x)) : (callFunc 53 #[.pointer (some a)]).run Tryz.prog w = .ok (.value (.int .i64 x)) w :=
  run_call_load Tryz.func53 (by kernel_rfl) (by kernel_rfl) (by kernel_rfl) .i64 (by kernel_rfl) hc
set_option maxRecDepth 100000 in
theorem add_i64 {a : Addr} {x y s : Int} {w : World} (hc : w.cell? a = some (.int .i64 x)) (hz : w.frozen? a = false) (hs : IntKind.i64.wrap (x + y) = s) :
    (callFunc 80 #[.pointer (some a), .int .i64 y]).run Tryz.prog w = .ok (.value (.int .i64 s)) (w.setCell a (.int .i64 s)) :=
  run_call_add Tryz.func80 (by kernel_rfl) (by kernel_rfl) (by kernel_rfl) .i64 (by kernel_rfl) hc hz (by simp [go_sem]; rw [← hs])
end Go.Proofs.YtajpipaooaemdaaGreatDoor

namespace Go.Proofs.YtajpipaooaemdaaGreatDoor
open Go.RowKit

/-- What a meter counts behind n more. -/
def madeN (m x : Int) : Int := if x < 0 then m else m + x
/-- How many more than at that time. -/
def sinceN (m was : Int) : Int := if was ≥ m then 0 else m - was

section
variable (g : Nat) (m x : Int) (w : World)

set_option maxRecDepth 100000 in
theorem made_nil : Calls Tryz.prog 35 #[.pointer none, .int .i64 x] w fun e w' => e = .returned (.tuple #[]) ∧ w' = w := by
  go_enter Tryz.func35, Tryz.ntmps35
  go_wp2
  first | go_end0 | refine bodyPost_ret (results_none rfl _ _ _) rfl ?_
  exact ⟨rfl, rfl⟩

set_option maxRecDepth 100000 in
theorem count_any (hc : w.cell? ⟨g, 0, none⟩ = some (.int .i64 m)) : Calls Tryz.prog 11 #[.pointer (some ⟨g, 0, none⟩)] w fun e w' => e = .returned (.int .i64 m) ∧ w' = w := by
  have hl := load_i64 hc
  go_enter Tryz.func11, Tryz.ntmps11
  go_wp2
  go_ret
  exact ⟨rfl, rfl⟩
end
end Go.Proofs.YtajpipaooaemdaaGreatDoor

namespace Go.Proofs.YtajpipaooaemdaaGreatDoor
open Go.RowKit

/-- A node, as it is asked. -/
structure Nd where
  leaf : Bool
  ow : Int
  part : List UInt8
  val : Int
  has : Bool
  es : List Ent
/-- Where its kids are: nowhere, or in block k, o standing for them. -/
inductive Be where
  | non
  | at_ (k : Nat) (o : Ho)
def Be.th : Be → Option Addr
  | .non => none
  | .at_ k _ => some ⟨k, 0, none⟩
abbrev Be.ptr (b : Be) : Value := .pointer b.th
def Be.D : Be → Nat → Prop
  | .non => fun _ => False
  | .at_ k o => o.all k
def Be.Is (w : World) (leaf : Bool) (es : List Ent) : Be → Prop
  | .non => leaf = true ∧ es = []
  | .at_ k o => leaf = false ∧ Kr w k o (kindN es.length) es
/-- What it is, as a number. -/
def isN (leaf : Bool) : Int := if leaf then 1 else 2
/-- The six cells of a node. -/
abbrev ndC (x : Nd) (A : Option Addr) (n c : Nat) (b : Be) : Array Value := #[.int .i64 (isN x.leaf), .int .u64 x.ow, .slice A n c, .int .u64 x.val, .bool x.has, b.ptr]
/-- The block of a part that has bytes. -/
def Pb (A : Option Addr) (l : List UInt8) (i : Nat) : Prop := l ≠ [] ∧ ∃ ad, A = some ad ∧ ad.block = i

/-- The block g is a node: it is x, its kids are b, its part lies from A on. -/
structure Nod (w : World) (g : Nat) (x : Nd) (b : Be) (A : Option Addr) : Prop where
  blk : ∃ c, Blk w g (ndC x A x.part.length c b)
  byt : Byt w w.heap.size A x.part.length x.part
  short : x.part.length ≤ 140737488355328
  kids : b.Is w x.leaf x.es
  ne : ¬ b.D g
  far : ∀ i, Pb A x.part i → i ≠ g ∧ ¬ b.D i
/-- All that is the node's own, and its part's block. -/
def Be.all (b : Be) (g : Nat) : Nat → Prop := fun i => i = g ∨ b.D i

theorem Byt.keepPb {w w' : World} {B : Nat} {A : Option Addr} {l : List UInt8} (h : Byt w B A l.length l) (hk : ∀ p : Addr, Pb A l p.block → w'.cell? p = w.cell? p) : Byt w' B A l.length l :=
  ⟨h.1, h.2.1, fun hn => by
    obtain ⟨ad, e, hb, hc⟩ := h.2.2 hn
    refine ⟨ad, e, hb, fun j u hu => (hk _ ⟨fun q => ?_, ad, e, (block_of_add ad j).symm⟩).trans (hc j u hu)⟩
    rw [q] at hn; simp at hn⟩
theorem Byt.ltPb {w : World} {B : Nat} {A : Option Addr} {l : List UInt8} (h : Byt w B A l.length l) {i : Nat} (hi : Pb A l i) : i < B := by
  obtain ⟨hn, ad, rfl, rfl⟩ := hi
  obtain ⟨ad', e, hb, _⟩ := h.2.2 (List.length_pos_iff.2 hn)
  injection e with e
  subst e
  exact hb
section
variable {w w' : World} {g : Nat} {x : Nd} {b : Be} {A : Option Addr}
theorem Be.Is.kept {leaf : Bool} {es : List Ent} (h : b.Is w leaf es) {D : Nat → Prop} (hk : Kept D w w') (hD : ∀ i, b.D i → ¬ D i) : b.Is w' leaf es := by
  cases b with
  | non => exact h
  | at_ k o => exact ⟨h.1, h.2.kept hk hD⟩
theorem Be.Is.lt {leaf : Bool} {es : List Ent} (h : b.Is w leaf es) {i : Nat} (hi : b.D i) : i < w.heap.size := by
  cases b with
  | non => exact hi.elim
  | at_ k o => exact h.2.lt hi
theorem Be.Is.still {leaf : Bool} {es : List Ent} (h : b.Is w leaf es) (hs : Still w w') : b.Is w' leaf es := h.kept (D := fun _ => False) (Kept.still hs) (fun _ _ q => q)
theorem Be.Is.up {leaf : Bool} {es : List Ent} (h : b.Is w leaf es) : Up es := by
  cases b with
  | non => obtain ⟨_, rfl⟩ := h; exact Up.nil
  | at_ k o => exact h.2.is.up
theorem Be.Is.few {leaf : Bool} {es : List Ent} (h : b.Is w leaf es) : es.length ≤ 256 := by
  cases b with
  | non => obtain ⟨_, rfl⟩ := h; simp
  | at_ k o => have := h.2.is.few; omega
theorem Nod.up (h : Nod w g x b A) : Up x.es := h.kids.up
theorem Nod.few (h : Nod w g x b A) : x.es.length ≤ 256 := h.kids.few
theorem Nod.lt (h : Nod w g x b A) {i : Nat} (hi : b.all g i) : i < w.heap.size := by
  rcases hi with rfl | hi
  · obtain ⟨c, hb⟩ := h.blk; exact hb.lt
  · exact h.kids.lt hi
theorem Nod.lt0 (h : Nod w g x b A) : g < w.heap.size := h.lt (.inl rfl)
theorem Nod.ltA (h : Nod w g x b A) {i : Nat} (hi : Pb A x.part i) : i < w.heap.size := h.byt.ltPb hi
/-- It stays where none of its blocks, nor its part's, is written. -/
theorem Nod.kept (h : Nod w g x b A) {D : Nat → Prop} (hk : Kept D w w') (hD : ∀ i, b.all g i ∨ Pb A x.part i → ¬ D i) : Nod w' g x b A := by
  obtain ⟨c, hb⟩ := h.blk
  refine ⟨⟨c, hk.blk hb (hD g (.inl (.inl rfl)))⟩, ?_, h.short, h.kids.kept hk (fun i hi => hD i (.inl (.inr hi))), h.ne, h.far⟩
  exact (h.byt.keepPb fun p hp => hk.cell (h.ltA hp) (hD _ (.inr hp))).more hk.size
theorem Nod.below (h : Nod w g x b A) (hk : Below w.heap.size w w') : Nod w' g x b A := h.kept (D := fun _ => False) (Kept.of_below hk) (fun _ _ q => q)
theorem Nod.still (h : Nod w g x b A) (hs : Still w w') : Nod w' g x b A := h.kept (D := fun _ => False) (Kept.still hs) (fun _ _ q => q)
theorem Nod.drewN (h : Nod w g x b A) (n : Nat) : Nod (w.drewN n) g x b A := h.still ⟨n, rfl⟩
theorem Nod.is_ (h : Nod w g x b A) : w.cell? ⟨g, 0, none⟩ = some (.int .i64 (isN x.leaf)) := by obtain ⟨c, hb⟩ := h.blk; exact hb.cell 0
theorem Nod.own_ (h : Nod w g x b A) : w.cell? ⟨g, 1, none⟩ = some (.int .u64 x.ow) := by obtain ⟨c, hb⟩ := h.blk; exact hb.cell 1
theorem Nod.val_ (h : Nod w g x b A) : w.cell? ⟨g, 3, none⟩ = some (.int .u64 x.val) := by obtain ⟨c, hb⟩ := h.blk; exact hb.cell 3
theorem Nod.has_ (h : Nod w g x b A) : w.cell? ⟨g, 4, none⟩ = some (.bool x.has) := by obtain ⟨c, hb⟩ := h.blk; exact hb.cell 4
theorem Nod.kid_ (h : Nod w g x b A) : w.cell? ⟨g, 5, none⟩ = some b.ptr := by obtain ⟨c, hb⟩ := h.blk; exact hb.cell 5
theorem Nod.fz (h : Nod w g x b A) (i : Nat) : w.frozen? ⟨g, i, none⟩ = false := by obtain ⟨c, hb⟩ := h.blk; exact hb.fz i
end

/-- What a write to a node leaves: it is another one from now on; only its own blocks were written. -/
def NdPost (w w' : World) (g : Nat) (x' : Nd) (b : Be) (A : Option Addr) (l : List UInt8) : Prop :=
  ∃ b' A', Nod w' g x' b' A' ∧ (∀ i, b'.D i → b.D i ∨ w.heap.size ≤ i) ∧ (∀ i, Pb A' x'.part i → Pb A l i ∨ w.heap.size ≤ i) ∧ Kept (b.all g) w w'
/-- What is left where a node is made; the meter, if there is one, counts it. -/
def NwPost (w w' : World) (m : Option Nat) (g : Nat) (x : Nd) (A0 : Option Addr) (l0 : List UInt8) : Prop :=
  ∃ b A, Nod w' g x b A ∧ (∀ i, b.all g i → w.heap.size ≤ i) ∧ (∀ i, Pb A x.part i → Pb A0 l0 i ∨ w.heap.size ≤ i) ∧ Kept (fun i => m = some i) w w'
/-- A meter, or none: what it counts; behind its cell may lie others, if it is a field. -/
def mtr (m : Option Nat) : Value := .pointer (m.map fun g => ⟨g, 0, none⟩)
def Mt (w : World) (m : Option Nat) (rest : List Value) (n : Int) : Prop := ∀ g, m = some g → Lst w g (.int .i64 n :: rest) ∧ 0 ≤ n ∧ n ≤ 9223372036854775806

set_option maxRecDepth 100000 in
theorem made_rest {w : World} {g : Nat} {m : Int} {rest : List Value} (h : Lst w g (.int .i64 m :: rest)) (hm : 0 ≤ m) (hs : m + 1 ≤ 9223372036854775807) :
    Calls Tryz.prog 35 #[.pointer (some ⟨g, 0, none⟩), .int .i64 1] w fun e w' => e = .returned (.tuple #[]) ∧ Lst w' g (.int .i64 (m + 1) :: rest) ∧ Kept (· = g) w w' := by
  have hc : w.cell? ⟨g, 0, none⟩ = some (.int .i64 m) := by rw [Lst.at_ h]; rfl
  have hz := Blk.fz h 0
  have e : IntKind.i64.wrap (m + 1) = m + 1 := by simp [IntKind.wrap_i64]; omega
  have ha := add_i64 hc hz e
  have n1 : ¬ (m + 1 < 0) := by omega
  have n2 : ¬ (9223372036854775807 < m + 1) := by omega
  have HB := Lib.hid (show Lst (w.setCell ⟨g, 0, none⟩ (.int .i64 (m + 1))) g (.int .i64 (m + 1) :: rest) from Lst.set1 h 0 _)
  clear h
  go_enter Tryz.func35, Tryz.ntmps35
  go_wp2
  go_end0
  exact ⟨rfl, HB.out, Kept.set_ _ _ _ rfl⟩
set_option maxRecDepth 100000 in
theorem made_one {rest : List Value} (m : Option Nat) (n : Int) (w : World) (h : Mt w m rest n) : Calls Tryz.prog 35 #[mtr m, .int .i64 1] w fun e w' => e = .returned (.tuple #[]) ∧
    (∀ g, m = some g → Lst w' g (.int .i64 (n + 1) :: rest)) ∧ Kept (fun i => m = some i) w w' := by
  cases m with
  | none =>
    refine (made_nil 1 w).mono ?_
    rintro e w' ⟨rfl, rfl⟩
    exact ⟨rfl, fun g q => (by cases q), Kept.refl _ _⟩
  | some g =>
    obtain ⟨h1, h2, h3⟩ := h g rfl
    refine (made_rest h1 h2 (by omega)).mono ?_
    rintro e w' ⟨rfl, h4, h5⟩
    refine ⟨rfl, fun g' q => ?_, h5.mono (fun i hi => by rw [hi])⟩
    injection q with q
    subst q
    exact h4

set_option maxRecDepth 100000 in
theorem nilb_no (ad : Addr) (n c : Nat) (W : World) : (binOp .eql 23 (.slice (some ad) n c) (.slice none 0 0)).run Tryz.prog W = .ok (.bool false) W := by kernel_rfl
set_option maxRecDepth 100000 in
theorem nilb_yes (n c : Nat) (W : World) : (binOp .eql 23 (.slice none n c) (.slice none 0 0)).run Tryz.prog W = .ok (.bool true) W := by kernel_rfl
/-- Bytes that are a call's own, all of them new. -/
def ClPost (w : World) (l : List UInt8) (e : Ending) (w' : World) : Prop :=
  ∃ A c, e = .returned (.slice A l.length c) ∧ Byt w' w'.heap.size A l.length l ∧ (∀ i, Pb A l i → w.heap.size ≤ i) ∧ Below w.heap.size w w'
set_option maxRecDepth 100000 in
set_option maxHeartbeats 400000 in
theorem bclone_any (A : Option Addr) (n c B : Nat) (l : List UInt8) (w : World) (ha : Byt w B A n l) (hB : B ≤ w.heap.size) (hn : n ≤ 140737488355328) : Calls Tryz.prog 36 #[.slice A n c] w (ClPost w l) := by
  cases A with
  | none =>
    have h0 : l = [] := by
      cases l with
      | nil => rfl
      | cons u l => obtain ⟨ad, e, _⟩ := ha.2.2 (by have := ha.1; simp at this; omega); cases e
    subst h0
    clear ha
    have hnil := nilb_yes n c
    go_enter Tryz.func36, Tryz.ntmps36
    go_wp2
    go_ret
    exact ⟨none, 0, rfl, Byt.none_, fun i q => absurd rfl q.1, Below.refl _ _⟩
  | some ad =>
    have HA := Lib.hid ha
    clear ha
    have hnil := nilb_no ad n c
    go_enter Tryz.func36, Tryz.ntmps36
    go_wp2_with (at_builtin
                 refine wpList_append_byt _ rfl (.tmp 5) (.tmp 6) _ rfl Tryz.underlying23 info_u8 w.heap.size (.slice (some ⟨w.heap.size, 0, none⟩) 0 0) 0 [] rfl (Mine.made w _ _ 0 (by unfold maxLen; omega) (Nat.le_refl _)) B (some ad) n c l rfl (HA.out.alloc hB _) (by omega) (by simp) ?_
                 intro v2 w2 hm2 hg2 _
                 rw [Nat.zero_add, List.nil_append] at hm2
                 have HM2 := Lib.hid hm2
                 have C2 := Lib.hid (((Below.refl w.heap.size w).alloc (Nat.le_refl _) _).grown hg2 (by simp) (by simp [Value.ownBlock]))
                 clear hm2 hg2)
    go_wp2
    go_ret
    obtain ⟨A2, c2, rfl⟩ := HM2.out.slice
    have hl := HA.out.1
    subst hl
    refine ⟨A2, c2, rfl, HM2.out.byt, fun i hi => ?_, C2.out⟩
    obtain ⟨hne, ad2, rfl, rfl⟩ := hi
    obtain ⟨g2, cap, hv, hlo, _⟩ := World.ownsRow.form HM2.out (List.length_pos_iff.2 hne)
    injection hv with hv
    injection hv with hv
    subst hv
    exact hlo
end Go.Proofs.YtajpipaooaemdaaGreatDoor

namespace Go.Proofs.YtajpipaooaemdaaGreatDoor
open Go.RowKit

/-- The byte and the kid of one, as what Next and Prev hand back. -/
def kidV (o : Option Ent) : Value := .tuple #[.int .u8 (eb o), .pointer (ex o)]
def kindD (x : Nd) : Int := if x.leaf then 1 else kindN x.es.length
def occN (x : Nd) : Int := if x.has then x.es.length + 1 else x.es.length

section
variable {w : World} {g : Nat} {x : Nd} {b : Be} {A : Option Addr}
set_option maxRecDepth 100000 in
theorem what_nil (w : World) : Calls Tryz.prog 54 #[.pointer none] w fun e w' => e = .returned (.int .i64 0) ∧ w' = w := by
  go_enter Tryz.func54, Tryz.ntmps54
  go_wp2
  go_ret
  exact ⟨rfl, rfl⟩
set_option maxRecDepth 100000 in
theorem what_any (h : Nod w g x b A) : Calls Tryz.prog 54 #[.pointer (some ⟨g, 0, none⟩)] w fun e w' => e = .returned (.int .i64 (isN x.leaf)) ∧ w' = w := by
  have hc := h.is_
  generalize isN x.leaf = i at hc ⊢
  clear h
  go_enter Tryz.func54, Tryz.ntmps54
  go_wp2
  go_ret
  exact ⟨rfl, rfl⟩
set_option maxRecDepth 100000 in
theorem below_nil (w : World) : Calls Tryz.prog 64 #[.pointer none] w fun e w' => e = .returned (.pointer none) ∧ w' = w := by
  go_enter Tryz.func64, Tryz.ntmps64
  go_wp2
  go_ret
  exact ⟨rfl, rfl⟩
set_option maxRecDepth 100000 in
theorem below_any (h : Nod w g x b A) : Calls Tryz.prog 64 #[.pointer (some ⟨g, 0, none⟩)] w fun e w' => e = .returned b.ptr ∧ w' = w := by
  have hc := h.kid_
  generalize b.th = i at hc ⊢
  clear h
  go_enter Tryz.func64, Tryz.ntmps64
  go_wp2
  go_ret
  exact ⟨rfl, rfl⟩
set_option maxRecDepth 100000 in
theorem owner_any (h : Nod w g x b A) : Calls Tryz.prog 105 #[.pointer (some ⟨g, 0, none⟩)] w fun e w' => e = .returned (.int .u64 x.ow) ∧ w' = w := by
  have hc := h.own_
  generalize x.ow = i at hc ⊢
  clear h
  go_enter Tryz.func105, Tryz.ntmps105
  go_wp2
  go_ret
  exact ⟨rfl, rfl⟩
set_option maxRecDepth 100000 in
theorem val_nil (w : World) : Calls Tryz.prog 41 #[.pointer none] w fun e w' => e = .returned (.tuple #[.int .u64 0, .bool false]) ∧ w' = w := by
  go_enter Tryz.func41, Tryz.ntmps41
  go_wp2
  go_ret2
  exact ⟨rfl, rfl⟩
set_option maxRecDepth 100000 in
theorem val_any (h : Nod w g x b A) : Calls Tryz.prog 41 #[.pointer (some ⟨g, 0, none⟩)] w fun e w' => e = .returned (.tuple #[.int .u64 x.val, .bool x.has]) ∧ Still w w' := by
  have hc := h.val_
  have hd := h.has_
  generalize x.val = i at hc ⊢
  generalize x.has = j at hd ⊢
  clear h
  go_enter Tryz.func41, Tryz.ntmps41
  go_wp2_with fail
  go_quiet (fail)
  go_wp2
  go_ret2
  exact ⟨rfl, Still.drewN _ _⟩

set_option maxRecDepth 100000 in
theorem Be.Is.get_ {leaf : Bool} {es : List Ent} (h : b.Is w leaf es) (c : UInt8) (z : Int) (hz : z = (c.toNat : Int)) : Calls Tryz.prog 73 #[b.ptr, .int .u8 z] w fun e w' => e = .returned (.tuple #[.pointer (getE es c.toNat), .bool (hasE es c.toNat)]) ∧ Still w w' := by
  subst hz
  cases b with
  | non =>
    obtain ⟨_, rfl⟩ := h
    refine (kget_no (NoK.nil w) _).mono ?_
    rintro e w' ⟨rfl, rfl⟩
    exact ⟨rfl, Still.refl _⟩
  | at_ k o => exact kget_any h.2 c
set_option maxRecDepth 100000 in
theorem Be.Is.next_ {leaf : Bool} {es : List Ent} (h : b.Is w leaf es) (a : Int) (ha : -9223372036854775808 ≤ a) : Calls Tryz.prog 65 #[b.ptr, .int .i64 a] w fun e w' => e = .returned (entV (nextE es a)) ∧ Still w w' := by
  cases b with
  | non =>
    obtain ⟨_, rfl⟩ := h
    refine (knext_no (NoK.nil w) _).mono ?_
    rintro e w' ⟨rfl, rfl⟩
    refine ⟨?_, Still.refl _⟩
    rw [show nextE [] a = none by unfold nextE; split <;> simp]
    rfl
  | at_ k o => exact knext_any h.2 a ha
set_option maxRecDepth 100000 in
theorem Be.Is.kind_ {es : List Ent} (h : b.Is w false es) : Calls Tryz.prog 55 #[b.ptr] w fun e w' => e = .returned (.int .i64 (kindN es.length : Int)) ∧ Still w w' := by
  cases b with
  | non => cases h.1
  | at_ k o => exact kkind_any h.2

set_option maxRecDepth 100000 in
theorem nkid_of {R : World → Prop} {p q : Value} {z : Int} {v : Value} {t : Bool} (h1 : Calls Tryz.prog 64 #[p] w fun e w' => e = .returned q ∧ w' = w)
    (h2 : Calls Tryz.prog 73 #[q, .int .u8 z] w fun e w' => e = .returned (.tuple #[v, .bool t]) ∧ R w') :
    Calls Tryz.prog 50 #[p, .int .u8 z] w fun e w' => e = .returned v ∧ R w' := by
  have H1 := Lib.hid h1
  have H2 := Lib.hid h2
  clear h1 h2
  go_enter Tryz.func50, Tryz.ntmps50
  go_wp2_with fail
  (with_reducible refine H1.out.mono ?_)
  rintro e w1 ⟨rfl, rfl⟩
  go_wp2_with fail
  (with_reducible refine H2.out.mono ?_)
  rintro e w2 ⟨rfl, hs⟩
  have HS := Lib.hid hs
  clear hs
  go_wp2
  go_ret
  exact ⟨rfl, HS.out⟩
set_option maxRecDepth 100000 in
theorem nnext_of {R : World → Prop} {p q : Value} {a z : Int} {v : Value} {t : Bool} (h1 : Calls Tryz.prog 64 #[p] w fun e w' => e = .returned q ∧ w' = w)
    (h2 : Calls Tryz.prog 65 #[q, .int .i64 a] w fun e w' => e = .returned (.tuple #[.int .u8 z, v, .bool t]) ∧ R w') :
    Calls Tryz.prog 43 #[p, .int .i64 a] w fun e w' => e = .returned (.tuple #[.int .u8 z, v]) ∧ R w' := by
  have H1 := Lib.hid h1
  have H2 := Lib.hid h2
  clear h1 h2
  go_enter Tryz.func43, Tryz.ntmps43
  go_wp2_with fail
  (with_reducible refine H1.out.mono ?_)
  rintro e w1 ⟨rfl, rfl⟩
  go_wp2_with fail
  (with_reducible refine H2.out.mono ?_)
  rintro e w2 ⟨rfl, hs⟩
  have HS := Lib.hid hs
  clear hs
  go_wp2
  go_ret2
  exact ⟨rfl, HS.out⟩
theorem entV_is (o : Option Ent) : ∃ t, entV o = .tuple #[.int .u8 (eb o), .pointer (ex o), .bool t] := by
  cases o with
  | none => exact ⟨_, rfl⟩
  | some e => exact ⟨_, rfl⟩
set_option maxRecDepth 100000 in
theorem nkid_any (h : Nod w g x b A) (c : UInt8) (z : Int) (hz : z = (c.toNat : Int)) : Calls Tryz.prog 50 #[.pointer (some ⟨g, 0, none⟩), .int .u8 z] w fun e w' => e = .returned (.pointer (getE x.es c.toNat)) ∧ Still w w' := nkid_of (below_any h) (h.kids.get_ c z hz)
set_option maxRecDepth 100000 in
theorem nnext_any (h : Nod w g x b A) (a : Int) (ha : -9223372036854775808 ≤ a) : Calls Tryz.prog 43 #[.pointer (some ⟨g, 0, none⟩), .int .i64 a] w fun e w' => e = .returned (kidV (nextE x.es a)) ∧ Still w w' := by
  have H := h.kids.next_ a ha
  obtain ⟨t, ht⟩ := entV_is (nextE x.es a)
  rw [ht] at H
  exact nnext_of (below_any h) H
set_option maxRecDepth 100000 in
theorem nnext_nil (a : Int) (w : World) : Calls Tryz.prog 43 #[.pointer none, .int .i64 a] w fun e w' => e = .returned (.tuple #[.int .u8 0, .pointer none]) ∧ w' = w := nnext_of (t := false) (below_nil w) (knext_no (NoK.nil w) a)
set_option maxRecDepth 100000 in
theorem nkind_nil (w : World) : Calls Tryz.prog 30 #[.pointer none] w fun e w' => e = .returned (.int .i64 0) ∧ w' = w := by
  have H1 := Lib.hid (what_nil w)
  go_enter Tryz.func30, Tryz.ntmps30
  go_wp2_with fail
  (with_reducible refine H1.out.mono ?_)
  rintro e w1 ⟨rfl, rfl⟩
  go_wp2
  go_ret
  exact ⟨rfl, rfl⟩
set_option maxRecDepth 100000 in
theorem nkind_any (h : Nod w g x b A) : Calls Tryz.prog 30 #[.pointer (some ⟨g, 0, none⟩)] w fun e w' => e = .returned (.int .i64 (kindD x)) ∧ Still w w' := by
  have H1 := Lib.hid (what_any h)
  have hc := h.kid_
  have hk := h.kids
  obtain ⟨lf, ow, pt, vl, hs, es⟩ := x
  simp only at hk hc H1
  clear h
  cases lf with
  | true =>
    go_enter Tryz.func30, Tryz.ntmps30
    go_wp2_with fail
    (with_reducible refine H1.out.mono ?_)
    rintro e w1 ⟨rfl, rfl⟩
    rw [show isN true = 1 from rfl]
    go_wp2
    go_ret
    exact ⟨rfl, Still.refl _⟩
  | false =>
    have H2 := Lib.hid hk.kind_
    clear hk
    generalize b.th = q at hc H2
    go_enter Tryz.func30, Tryz.ntmps30
    go_wp2_with fail
    (with_reducible refine H1.out.mono ?_)
    rintro e w1 ⟨rfl, rfl⟩
    rw [show isN false = 2 from rfl]
    go_wp2_with fail
    (with_reducible refine H2.out.mono ?_)
    rintro e w2 ⟨rfl, hs⟩
    have HT := Lib.hid hs
    clear hs
    go_wp2
    go_ret
    exact ⟨rfl, HT.out⟩

set_option maxRecDepth 100000 in
theorem npart_any (h : Nod w g x b A) : Calls Tryz.prog 28 #[.pointer (some ⟨g, 0, none⟩)] w (ClPost w x.part) := by
  obtain ⟨c, hb⟩ := h.blk
  have hc : w.cell? ⟨g, 2, none⟩ = some (.slice A x.part.length c) := hb.cell 2
  have H1 := Lib.hid (bclone_any A x.part.length c w.heap.size x.part w h.byt (Nat.le_refl _) h.short)
  clear hb h
  generalize x.part = l at hc H1 ⊢
  generalize hn : l.length = n at hc H1
  go_enter Tryz.func28, Tryz.ntmps28
  go_wp2_with fail
  (with_reducible refine H1.out.mono ?_)
  rintro e w1 ⟨A1, c1, rfl, h1, h2, h3⟩
  have HE := Lib.hid (show ClPost w l (.returned (.slice A1 l.length c1)) w1 from ⟨A1, c1, rfl, h1, h2, h3⟩)
  clear h1 h2 h3
  rw [hn] at HE ⊢
  go_wp2
  go_ret
  exact HE.out
end
end Go.Proofs.YtajpipaooaemdaaGreatDoor
