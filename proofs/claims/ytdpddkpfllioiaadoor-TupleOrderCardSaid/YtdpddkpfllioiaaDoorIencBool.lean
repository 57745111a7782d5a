/-
  What ienc.PutBool, TakeBool and the document's TakeBool answer.
-/
import Derived.Test.YtdpddkpfllioiaaDoorIencRef
namespace Go.Proofs.YtdpddkpfllioiaaDoor
open Go.RowKit

/-- The byte of yes or no. -/
def boolB (t : Bool) : UInt8 := if t then 1 else 0
/-- What TakeBool answers. -/
def tbV : List UInt8 → Bool
  | u :: _ => u == 1
  | [] => false
def tbE : List UInt8 → Int
  | u :: _ => if u.toNat ≤ 1 then 0 else 3
  | [] => 4
def tbR : List UInt8 → List UInt8
  | u :: r => if u.toNat ≤ 1 then r else []
  | [] => []

/-- What PutBool leaves: one byte in memory of its own. -/
def PBPost (w : World) (u : UInt8) (e : Ending) (w' : World) : Prop :=
  ∃ A c, e = .returned (.slice A 1 c) ∧ Byt w' w'.heap.size A 1 [u] ∧ 1 ≤ c ∧ Below w.heap.size w w'
theorem putbool_any (t : Bool) (w : World) : Calls Tryd.prog 59 #[.bool t] w (PBPost w (boolB t)) := by
  cases t
  · go_enter Tryd.func59, Tryd.ntmps59
    go_wp2
    go_ret
    exact ⟨_, _, rfl, by rw [World.size_alloc]; exact byt_one w 5 (u := 0) rfl, Nat.le_refl _, (Below.refl _ _).alloc (Nat.le_refl _) _⟩
  · go_enter Tryd.func59, Tryd.ntmps59
    go_wp2
    go_ret
    exact ⟨_, _, rfl, by rw [World.size_alloc]; exact byt_one w 5 (u := 1) rfl, Nat.le_refl _, (Below.refl _ _).alloc (Nat.le_refl _) _⟩

/-- What TakeBool leaves. -/
def TBPost (w : World) (v : Bool) (l : List UInt8) (er : Int) (e : Ending) (w' : World) : Prop :=
  ∃ A n c, e = .returned (.tuple #[.bool v, .slice A n c, .int .i64 er]) ∧ Byt w' w'.heap.size A n l ∧ Below w.heap.size w w' ∧ n ≤ c
theorem TBPost.nil_ {w w' : World} {l : List UInt8} {v v' : Bool} {er a : Int} (hl : l = []) (hv : v' = v) (h : a = er) (hb : Below w.heap.size w w') : TBPost w v l er (.returned (.tuple #[.bool v', .slice none 0 0, .int .i64 a])) w' := by
  subst hl hv h
  exact ⟨none, 0, 0, rfl, Byt.none_, hb, Nat.le_refl _⟩
theorem TBPost.row {w w' : World} {l : List UInt8} {v v' : Bool} {er a : Int} {g k c : Nat} {e : TypeId} (hr : Row w' g e l) (hl : l.length = k) (hm : k ≤ maxLen) (hv : v' = v) (h : a = er) (hb : Below w.heap.size w w') (hc : k ≤ c := by first | assumption | exact Nat.le_refl _ | omega) :
    TBPost w v l er (.returned (.tuple #[.bool v', .slice (some ⟨g, 0, none⟩) k c, .int .i64 a])) w' := by
  subst hv h
  exact ⟨_, _, _, rfl, hr.byt hl hm hr.lt, hb, hc⟩

set_option maxRecDepth 100000 in
set_option maxHeartbeats 400000 in
theorem takebool_any (A : Option Addr) (n c B : Nat) (l : List UInt8) (w : World) (ha : Byt w B A n l) (hnc : n ≤ c) (hB : B ≤ w.heap.size) (hs : n ≤ 281474976710656) :
    Calls Tryd.prog 88 #[.slice A n c] w (TBPost w (tbV l) (tbR l) (tbE l)) := by
  have HN := Lib.hid ha.1
  match l, ha with
  | [], ha =>
    obtain rfl : n = 0 := ha.1.symm
    clear ha
    go_enter Tryd.func88, Tryd.ntmps88
    go_wp2
    go_ret3
    exact TBPost.nil_ rfl rfl rfl (Below.refl _ _)
  | u :: r, ha =>
    obtain ⟨j, hj⟩ : ∃ j, n = 1 + j := ⟨r.length, by have := ha.1; simp at this; omega⟩
    subst hj
    have q1 : (1 + (j : Int) - 1) = j := by omega
    have HJ := Lib.hid (show r.length = j from by have := ha.1; simp at this; omega)
    obtain ⟨ad, u', rfl, hbk, hu, hc0⟩ := ha.at_ (k := 0) (by omega)
    obtain rfl : u = u' := by simpa using hu
    have hd0 : w.cell? ad = some (.int .u8 (u.toNat : Int)) := by simpa [Addr.add] using hc0
    clear hu hc0
    by_cases h1 : u.toNat ≤ 1
    · have HE := Lib.hid (show tbV (u :: r) = (u == 1) ∧ tbR (u :: r) = r ∧ tbE (u :: r) = 0 from by simp [tbV, tbR, tbE, h1])
      rw [HE.out.1, HE.out.2.1, HE.out.2.2]
      have hmk : ∀ W : World, (Instr.makeSlice 26 (.int .i64 (j : Int)) (.int .i64 (j : Int))).run Tryd.prog W = .ok (.slice (some ⟨W.heap.size, 0, none⟩) j j) (W.alloc (.cells (bvs (List.replicate j 0)) 5)) := make_bytes (P := Tryd.prog) Tryd.underlying26 info_u8 j (by omega)
      obtain ⟨A', hsl, hby⟩ := slice_from (P := Tryd.prog) Tryd.underlying26 size_u8 ad 1 j c hnc
      obtain ⟨w3, hcp, hrow, hbel⟩ := run_copy_byt (P := Tryd.prog) (w.alloc (.cells (bvs (List.replicate j 0)) 5)) (dT := 26) (sT := 26) 3 Tryd.underlying26 size_u8 w.heap.size j j A' j (c - 1) B (List.replicate j 0) r (Row.new _ _ _) (by simp) ((hby _ _ _ ha).alloc hB _)
      have hrow' : Row w3 w.heap.size 5 r := by
        rwa [show (List.replicate j (0 : UInt8)).drop j = [] from by simp, List.append_nil, List.take_of_length_le (by have := HJ.out; omega)] at hrow
      have HROW := Lib.hid hrow'
      have HB3 := Lib.hid (((Below.refl w.heap.size w).alloc (Nat.le_refl _) _).trans hbel)
      have hd3 : w3.cell? ad = some (.int .u8 (u.toNat : Int)) := (HB3.out.cell (p := ad) (by omega)).trans hd0
      clear hby hrow hrow' hbel ha
      rw [show ((1 : Nat) : Int) = 1 from rfl] at hsl
      rcases (by omega : u.toNat = 0 ∨ u.toNat = 1) with hz | hz
      · have HV := Lib.hid (show false = (u == 1) from by rw [show u = 0 from UInt8.toNat_inj.1 hz]; rfl)
        rw [hz] at hd0 hd3
        clear h1 hz
        go_enter Tryd.func88, Tryd.ntmps88
        go_wp2
        go_ret3
        exact TBPost.row HROW.out HJ.out (by unfold maxLen; omega) HV.out rfl HB3.out
      · have HV := Lib.hid (show true = (u == 1) from by rw [show u = 1 from UInt8.toNat_inj.1 hz]; rfl)
        rw [hz] at hd0 hd3
        clear h1 hz
        go_enter Tryd.func88, Tryd.ntmps88
        go_wp2
        go_ret3
        exact TBPost.row HROW.out HJ.out (by unfold maxLen; omega) HV.out rfl HB3.out
    · have HE := Lib.hid (show tbR (u :: r) = [] ∧ false = tbV (u :: r) ∧ 3 = tbE (u :: r) from by
        refine ⟨by simp [tbR, h1], ?_, by simp [tbE, h1]⟩
        have : u ≠ 1 := fun q => h1 (by rw [q]; decide)
        simp [tbV, this])
      have h2 : (((u.toNat : Int)) != 0) = true := by simp; omega
      have h3 : (((u.toNat : Int)) != 1) = true := by simp; omega
      clear ha
      go_enter Tryd.func88, Tryd.ntmps88
      go_wp2
      go_ret3
      exact TBPost.nil_ HE.out.1 HE.out.2.1 HE.out.2.2 (Below.refl _ _)

theorem TBPost.byt {w w' : World} {l : List UInt8} {v v' : Bool} {er a : Int} {A : Option Addr} {k c : Nat} (hy : Byt w' w'.heap.size A k l) (hv : v' = v) (h : a = er) (hb : Below w.heap.size w w') (hc : k ≤ c := by first | assumption | exact Nat.le_refl _ | omega) :
    TBPost w v l er (.returned (.tuple #[.bool v', .slice A k c, .int .i64 a])) w' := by
  subst hv h
  exact ⟨_, _, _, rfl, hy, hb, hc⟩
set_option maxRecDepth 100000 in
set_option maxHeartbeats 400000 in
theorem rtakebool_any (A : Option Addr) (n c B : Nat) (l : List UInt8) (w : World) (ha : Byt w B A n l) (hnc : n ≤ c) (hB : B ≤ w.heap.size) :
    Calls Tryd.prog 92 #[.slice A n c] w (TBPost w (tbV l) (tbR l) (tbE l)) := by
  have hnm : n ≤ 9223372036854775807 := by have := ha.2.1; unfold maxLen at this; omega
  match l, ha with
  | [], ha =>
    obtain rfl : n = 0 := ha.1.symm
    clear ha
    go_enter Tryd.func92, Tryd.ntmps92
    go_wp2
    go_ret3
    exact TBPost.nil_ rfl rfl rfl (Below.refl _ _)
  | u :: r, ha =>
    obtain ⟨j, hj⟩ : ∃ j, n = 1 + j := ⟨r.length, by have := ha.1; simp at this; omega⟩
    subst hj
    obtain ⟨ad, u', rfl, hbk, hu, hc0⟩ := ha.at_ (k := 0) (by omega)
    obtain rfl : u = u' := by simpa using hu
    have hd0 : w.cell? ad = some (.int .u8 (u.toNat : Int)) := by simpa [Addr.add] using hc0
    clear hu hc0
    by_cases h1 : u.toNat ≤ 1
    · have HE := Lib.hid (show tbV (u :: r) = (u == 1) ∧ tbR (u :: r) = r ∧ tbE (u :: r) = 0 from by simp [tbV, tbR, tbE, h1])
      rw [HE.out.1, HE.out.2.1, HE.out.2.2]
      obtain ⟨A', hsl, hby⟩ := slice_from (P := Tryd.prog) Tryd.underlying26 size_u8 ad 1 j c hnc
      have HY := Lib.hid (show Byt w B A' j r from hby _ _ _ ha)
      clear hby ha
      rw [show ((1 : Nat) : Int) = 1 from rfl] at hsl
      rcases (by omega : u.toNat = 0 ∨ u.toNat = 1) with hz | hz
      · have HV := Lib.hid (show false = (u == 1) from by rw [show u = 0 from UInt8.toNat_inj.1 hz]; rfl)
        rw [hz] at hd0
        clear h1 hz
        go_enter Tryd.func92, Tryd.ntmps92
        go_wp2
        go_quiet (fail)
        go_wp2
        go_ret3
        exact TBPost.byt ((HY.out.drewN _).more hB) HV.out rfl (below_drewN (Below.refl _ _) _)
      · have HV := Lib.hid (show true = (u == 1) from by rw [show u = 1 from UInt8.toNat_inj.1 hz]; rfl)
        rw [hz] at hd0
        clear h1 hz
        go_enter Tryd.func92, Tryd.ntmps92
        go_wp2
        go_quiet (fail)
        go_wp2
        go_ret3
        exact TBPost.byt ((HY.out.drewN _).more hB) HV.out rfl (below_drewN (Below.refl _ _) _)
    · have HE := Lib.hid (show tbR (u :: r) = [] ∧ false = tbV (u :: r) ∧ 3 = tbE (u :: r) from by
        refine ⟨by simp [tbR, h1], ?_, by simp [tbE, h1]⟩
        have : u ≠ 1 := fun q => h1 (by rw [q]; decide)
        simp [tbV, this])
      have h2 : (1 : Int) < (u.toNat : Int) := by omega
      clear ha
      go_enter Tryd.func92, Tryd.ntmps92
      go_wp2
      go_ret3
      exact TBPost.nil_ HE.out.1 HE.out.2.1 HE.out.2.2 (Below.refl _ _)
end Go.Proofs.YtdpddkpfllioiaaDoor
