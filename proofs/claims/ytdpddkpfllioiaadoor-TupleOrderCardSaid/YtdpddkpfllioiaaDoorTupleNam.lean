/-
  The table of the kinds' names in memory; what strings.Join, Cut and CutPrefix, and the document's names, answer here.
-/
import Derived.Test.YtdpddkpfllioiaaDoorTupleText
import Derived.Test.YtdpddkpfllioiaaDoorTupleLaw
import Derived.Test.YtdpddkpfllioiaaDoorTuple
import Derived.Test.YtdpddkpfllioiaaDoorShelf
namespace Go.Proofs.YtdpddkpfllioiaaDoor
open Go.RowKit

/-- A text as a value; the table of the names: eleven cells in the variable's own block. -/
abbrev sv (l : List UInt8) : Value := .string (bst l)
def Nam (w : World) : Prop := 0 < w.heap.size ∧ ∀ i : Nat, i ≤ 10 → w.cell? ⟨0, i, none⟩ = some (sv (nameL (i : Int)))
theorem Nam.below {w w' : World} (h : Nam w) (hb : Below w.heap.size w w') : Nam w' :=
  ⟨Nat.lt_of_lt_of_le h.1 hb.size, fun i hi => (hb.cell (p := ⟨0, i, none⟩) h.1).trans (h.2 i hi)⟩

theorem join_any (g n : Nat) (ss : List (List UInt8)) (w : World) (hl : ss.length = n) (h : Blk w g (ss.map sv).toArray) (hn : n ≤ 1000) (hj : (Lib.join ss [44]).length ≤ 100000) :
    Calls Tryd.prog 31 #[.slice (some ⟨g, 0, none⟩) n n, .string ⟨#[44]⟩] w fun e w' => e = .returned (sv (Lib.join ss [44])) ∧ Below w.heap.size w w' := by
  have e1 : (ss.map bst).map (·.data.toList) = ss := by
    rw [List.map_map]
    refine (List.map_congr_left (g := id) (fun l _ => bst_toList l)).trans (List.map_id ss)
  have q := sh_strings_Join g 0 n (ss.map bst) ⟨#[44]⟩ w (fun j x hx => by
      rw [Nat.zero_add, h.cell j]
      rw [List.getElem?_map] at hx
      rcases hs : ss[j]? with _ | l
      · rw [hs] at hx; cases hx
      · rw [hs] at hx
        simp only [Option.map_some, Option.some.injEq] at hx
        subst hx
        simp [hs, sv]) h.lt (by simp; omega) (by simp [hl]) (by rw [e1]; exact Nat.le_trans hj (by decide))
  rw [e1, List.length_map, hl] at q
  exact q
set_option maxRecDepth 100000 in
set_option maxHeartbeats 1000000 in
theorem scut_any (l : List UInt8) (w : World) (hl : l.length ≤ 100000) :
    Calls Tryd.prog 52 #[.string (bst l), .string ⟨#[44]⟩] w fun e w' => e = .returned (match comma l with | some i => .tuple #[sv (l.take i), sv (l.drop (i + 1)), .bool true] | none => .tuple #[sv l, sv [], .bool false]) ∧ Still w w' := by
  have HI := Lib.hid (sh_stringslite_Index_one (bst l) 44 w)
  rw [bst_toList, index_comma] at HI
  have hsz : (bst l).size = l.length := bst_size l
  rcases hc : comma l with _ | i
  · rw [hc] at HI
    go_enter Tryd.func52, Tryd.ntmps52
    go_wp2_with fail
    (with_reducible refine HI.out.mono ?_)
    rintro e w1 ⟨rfl, rfl⟩
    go_wp2
    go_ret3
    exact ⟨rfl, Still.refl _⟩
  · rw [hc] at HI
    have hi := (comma_some hc).1
    have HE := Lib.hid (show (bst l).extract 0 i = bst (l.take i) ∧ (bst l).extract (i + 1) l.length = bst (l.drop (i + 1)) from by
      constructor
      · rw [Lib.extract_eq, bst_toList]; simp [bst]
      · rw [Lib.extract_eq, bst_toList, List.take_of_length_le (by simp)]; rfl)
    go_enter Tryd.func52, Tryd.ntmps52
    go_wp2_with fail
    (with_reducible refine HI.out.mono ?_)
    rintro e w1 ⟨rfl, rfl⟩
    go_wp2_with fail
    have b1 : (i : Int) ≤ (l.length : Int) := by omega
    have b2 : (i : Int) + 1 ≤ (l.length : Int) := by omega
    have b3 : IntKind.i64.wrap ((i : Int) + 1) = (i : Int) + 1 := IntWalk.i64_in _ (by omega)
    have b4 : ((i : Int) + 1).toNat = i + 1 := by omega
    have b5 : (0 : Int) ≤ (i : Int) + 1 := by omega
    go_quiet (fail)
    go_wp2
    go_ret3
    exact ⟨by rw [HE.out.1, HE.out.2]; rfl, Still.drewN _ _⟩
set_option maxRecDepth 100000 in
theorem cut_any (l : List UInt8) (w : World) (hl : l.length ≤ 100000) :
    Calls Tryd.prog 37 #[.string (bst l), .string ⟨#[44]⟩] w fun e w' => e = .returned (match comma l with | some i => .tuple #[sv (l.take i), sv (l.drop (i + 1)), .bool true] | none => .tuple #[sv l, sv [], .bool false]) ∧ Still w w' := by
  have HI := Lib.hid (scut_any l w hl)
  rcases hc : comma l with _ | i
  · rw [hc] at HI
    go_enter Tryd.func37, Tryd.ntmps37
    go_wp2_with fail
    (with_reducible refine HI.out.mono ?_)
    rintro e w1 ⟨rfl, h1⟩
    go_wp2
    go_ret3
    exact ⟨rfl, h1⟩
  · rw [hc] at HI
    go_enter Tryd.func37, Tryd.ntmps37
    go_wp2_with fail
    (with_reducible refine HI.out.mono ?_)
    rintro e w1 ⟨rfl, h1⟩
    go_wp2
    go_ret3
    exact ⟨rfl, h1⟩
theorem cutp_any (l : List UInt8) (w : World) :
    Calls Tryd.prog 53 #[.string (bst l), .string ⟨#[45]⟩] w fun e w' => e = .returned (.tuple #[sv (nmL l), .bool (dnB l)]) ∧ w = w' := by
  refine (sh_strings_CutPrefix (bst l) ⟨#[45]⟩ w).mono ?_
  rintro e w' ⟨rfl, rfl⟩
  have h := trim_dash l
  rw [bst_toList, show ((⟨#[45]⟩ : ByteArray).data.toList) = [45] from rfl, h.1, h.2]
  exact ⟨rfl, rfl⟩
/-- The names of the document: ten texts in a block of the call's own. -/
def allN : List (List UInt8) := [nameL 1, nameL 2, nameL 3, nameL 4, nameL 5, nameL 6, nameL 7, nameL 8, nameL 9, nameL 10]
theorem allN_at {j : Nat} (h : j < 10) : allN[j]? = some (nameL ((j : Int) + 1)) := by
  rcases (by omega : j = 0 ∨ j = 1 ∨ j = 2 ∨ j = 3 ∨ j = 4 ∨ j = 5 ∨ j = 6 ∨ j = 7 ∨ j = 8 ∨ j = 9) with rfl | rfl | rfl | rfl | rfl | rfl | rfl | rfl | rfl | rfl <;> rfl
def NmPost (w : World) (e : Ending) (w' : World) : Prop := ∃ g, e = .returned (.slice (some ⟨g, 0, none⟩) 10 10) ∧ w.heap.size ≤ g ∧ Blk w' g (allN.map sv).toArray ∧ Below w.heap.size w w'
set_option maxRecDepth 100000 in
theorem names_any (w : World) : Calls Tryd.prog 32 #[] w (NmPost w) := by
  go_enter Tryd.func32, Tryd.ntmps32
  go_wp2
  go_ret
  exact ⟨w.heap.size, rfl, Nat.le_refl _, Blk.new _ _ _, (Below.refl _ _).alloc (Nat.le_refl _) _⟩
theorem nm_cell {w : World} {g : Nat} (h : Blk w g (allN.map sv).toArray) {j : Nat} (hj : j < 10) : w.cell? ⟨g, j, none⟩ = some (sv (nameL ((j : Int) + 1))) := by
  rw [h.cell j]
  simp [allN_at hj]
end Go.Proofs.YtdpddkpfllioiaaDoor
