/-
  What ienc.PutBool, TakeBool and the document's TakeBool answer.
-/
import Derived.Test.YtfflfgpjdgdlmaaDoorIencRef
namespace Go.Proofs.YtfflfgpjdgdlmaaDoor
open Go.RowKit

/-- The byte of yes or no. -/
def boolB (t : Bool) : UInt8 := if t then 1 else 0
/-- What TakeBool answers. -/
def tbV : List UInt8 → Bool
  | u :: _ => u == 1
  | [] => false
def tbE : List UInt8 → Int
  | u :: _ => if u.toNat ≤ 1 then 0 else 3
  | [] => 4
def tbR : List UInt8 → List UInt8
  | u :: r => if u.toNat ≤ 1 then r else []
  | [] => []

/-- What PutBool leaves: one byte in memory of its own. -/
def PBPost (w : World) (u : UInt8) (e : Ending) (w' : World) : Prop :=
  ∃ A c, e = .returned (.slice A 1 c) ∧ Byt w' w'.heap.size A 1 [u] ∧ 1 ≤ c ∧ Below w.heap.size w w'
theorem putbool_any (t : Bool) (w : World) : Calls Tryd.prog 19 #[.bool t] w (PBPost w (boolB t)) := by
  cases t
  · go_enter Tryd.func19, Tryd.ntmps19
    go_wp2
    go_ret
    exact ⟨_, _, rfl, by rw [World.size_alloc]; exact byt_one w 5 (u := 0) rfl, Nat.le_refl _, (Below.refl _ _).alloc (Nat.le_refl _) _⟩
  · go_enter Tryd.func19, Tryd.ntmps19
    go_wp2
    go_ret
    exact ⟨_, _, rfl, by rw [World.size_alloc]; exact byt_one w 5 (u := 1) rfl, Nat.le_refl _, (Below.refl _ _).alloc (Nat.le_refl _) _⟩

/-- What TakeBool leaves. -/
def TBPost (w : World) (v : Bool) (l : List UInt8) (er : Int) (e : Ending) (w' : World) : Prop :=
  ∃ A n c, e = .returned (.tuple #[.bool v, .slice A n c, .int .i64 er]) ∧ Byt w' w'.heap.size A n l ∧ Below w.heap.size w w'
theorem TBPost.nil_ {w w' : World} {l : List UInt8} {v v' : Bool} {er a : Int} (hl : l = []) (hv : v' = v) (h : a = er) (hb : Below w.heap.size w w') : TBPost w v l er (.returned (.tuple #[.bool v', .slice none 0 0, .int .i64 a])) w' := by
  subst hl hv h
  exact ⟨none, 0, 0, rfl, Byt.none_, hb⟩
theorem TBPost.row {w w' : World} {l : List UInt8} {v v' : Bool} {er a : Int} {g k c : Nat} {e : TypeId} (hr : Row w' g e l) (hl : l.length = k) (hm : k ≤ maxLen) (hv : v' = v) (h : a = er) (hb : Below w.heap.size w w') :
    TBPost w v l er (.returned (.tuple #[.bool v', .slice (some ⟨g, 0, none⟩) k c, .int .i64 a])) w' := by
  subst hv h
  exact ⟨_, _, _, rfl, hr.byt hl hm hr.lt, hb⟩

set_option maxHeartbeats 400000 in
theorem takebool_any (A : Option Addr) (n c B : Nat) (l : List UInt8) (w : World) (ha : Byt w B A n l) (hnc : n ≤ c) (hB : B ≤ w.heap.size) (hs : n ≤ 281474976710656) :
    Calls Tryd.prog 16 #[.slice A n c] w (TBPost w (tbV l) (tbR l) (tbE l)) := by
  have HN := Lib.hid ha.1
  match l, ha with
  | [], ha =>
    obtain rfl : n = 0 := ha.1.symm
    clear ha
    go_enter Tryd.func16, Tryd.ntmps16
    go_wp2
    go_ret3
    exact TBPost.nil_ rfl rfl rfl (Below.refl _ _)
  | u :: r, ha =>
    obtain ⟨j, hj⟩ : ∃ j, n = 1 + j := ⟨r.length, by have := ha.1; simp at this; omega⟩
    subst hj
    have q1 : (1 + (j : Int) - 1) = j := by omega
    have HJ := Lib.hid (show r.length = j from by have := ha.1; simp at this; omega)
    obtain ⟨ad, u', rfl, hbk, hu, hc0⟩ := ha.at_ (k := 0) (by omega)
    obtain rfl : u = u' := by simpa using hu
    have hd0 : w.cell? ad = some (.int .u8 (u.toNat : Int)) := by simpa [Addr.add] using hc0
    clear hu hc0
    by_cases h1 : u.toNat ≤ 1
    · have HE := Lib.hid (show tbV (u :: r) = (u == 1) ∧ tbR (u :: r) = r ∧ tbE (u :: r) = 0 from by simp [tbV, tbR, tbE, h1])
      rw [HE.out.1, HE.out.2.1, HE.out.2.2]
      have hmk : ∀ W : World, (Instr.makeSlice 22 (.int .i64 (j : Int)) (.int .i64 (j : Int))).run Tryd.prog W = .ok (.slice (some ⟨W.heap.size, 0, none⟩) j j) (W.alloc (.cells (bvs (List.replicate j 0)) 5)) := make_bytes (P := Tryd.prog) Tryd.underlying22 info_u8 j (by omega)
      obtain ⟨A', hsl, hby⟩ := slice_from (P := Tryd.prog) Tryd.underlying22 size_u8 ad 1 j c hnc
      obtain ⟨w3, hcp, hrow, hbel⟩ := run_copy_byt (P := Tryd.prog) (w.alloc (.cells (bvs (List.replicate j 0)) 5)) (dT := 22) (sT := 22) 3 Tryd.underlying22 size_u8 w.heap.size j j A' j (c - 1) B (List.replicate j 0) r (Row.new _ _ _) (by simp) ((hby _ _ _ ha).alloc hB _)
      have hrow' : Row w3 w.heap.size 5 r := by
        rwa [show (List.replicate j (0 : UInt8)).drop j = [] from by simp, List.append_nil, List.take_of_length_le (by have := HJ.out; omega)] at hrow
      have HROW := Lib.hid hrow'
      have HB3 := Lib.hid (((Below.refl w.heap.size w).alloc (Nat.le_refl _) _).trans hbel)
      have hd3 : w3.cell? ad = some (.int .u8 (u.toNat : Int)) := (HB3.out.cell (p := ad) (by omega)).trans hd0
      clear hby hrow hrow' hbel ha
      rw [show ((1 : Nat) : Int) = 1 from rfl] at hsl
      rcases (by omega : u.toNat = 0 ∨ u.toNat = 1) with hz | hz
      · have HV := Lib.hid (show false = (u == 1) from by rw [show u = 0 from UInt8.toNat_inj.1 hz]; rfl)
        rw [hz] at hd0 hd3
        clear h1 hz
        go_enter Tryd.func16, Tryd.ntmps16
        go_wp2
        go_ret3
        exact TBPost.row HROW.out HJ.out (by unfold maxLen; omega) HV.out rfl HB3.out
      · have HV := Lib.hid (show true = (u == 1) from by rw [show u = 1 from UInt8.toNat_inj.1 hz]; rfl)
        rw [hz] at hd0 hd3
        clear h1 hz
        go_enter Tryd.func16, Tryd.ntmps16
        go_wp2
        go_ret3
        exact TBPost.row HROW.out HJ.out (by unfold maxLen; omega) HV.out rfl HB3.out
    · have HE := Lib.hid (show tbR (u :: r) = [] ∧ false = tbV (u :: r) ∧ 3 = tbE (u :: r) from by
        refine ⟨by simp [tbR, h1], ?_, by simp [tbE, h1]⟩
        have : u ≠ 1 := fun q => h1 (by rw [q]; decide)
        simp [tbV, this])
      have h2 : (((u.toNat : Int)) != 0) = true := by simp; omega
      have h3 : (((u.toNat : Int)) != 1) = true := by simp; omega
      clear ha
      go_enter Tryd.func16, Tryd.ntmps16
      go_wp2
      go_ret3
      exact TBPost.nil_ HE.out.1 HE.out.2.1 HE.out.2.2 (Below.refl _ _)

theorem TBPost.byt {w w' : World} {l : List UInt8} {v v' : Bool} {er a : Int} {A : Option Addr} {k c : Nat} (hy : Byt w' w'.heap.size A k l) (hv : v' = v) (h : a = er) (hb : Below w.heap.size w w') :
    TBPost w v l er (.returned (.tuple #[.bool v', .slice A k c, .int .i64 a])) w' := by
  subst hv h
  exact ⟨_, _, _, rfl, hy, hb⟩
set_option maxHeartbeats 400000 in
theorem rtakebool_any (A : Option Addr) (n c B : Nat) (l : List UInt8) (w : World) (ha : Byt w B A n l) (hnc : n ≤ c) (hB : B ≤ w.heap.size) :
    Calls Tryd.prog 17 #[.slice A n c] w (TBPost w (tbV l) (tbR l) (tbE l)) := by
  have hnm : n ≤ 9223372036854775807 := by have := ha.2.1; unfold maxLen at this; omega
  match l, ha with
  | [], ha =>
    obtain rfl : n = 0 := ha.1.symm
    clear ha
    go_enter Tryd.func17, Tryd.ntmps17
    go_wp2
    go_ret3
    exact TBPost.nil_ rfl rfl rfl (Below.refl _ _)
  | u :: r, ha =>
    obtain ⟨j, hj⟩ : ∃ j, n = 1 + j := ⟨r.length, by have := ha.1; simp at this; omega⟩
    subst hj
    obtain ⟨ad, u', rfl, hbk, hu, hc0⟩ := ha.at_ (k := 0) (by omega)
    obtain rfl : u = u' := by simpa using hu
    have hd0 : w.cell? ad = some (.int .u8 (u.toNat : Int)) := by simpa [Addr.add] using hc0
    clear hu hc0
    by_cases h1 : u.toNat ≤ 1
    · have HE := Lib.hid (show tbV (u :: r) = (u == 1) ∧ tbR (u :: r) = r ∧ tbE (u :: r) = 0 from by simp [tbV, tbR, tbE, h1])
      rw [HE.out.1, HE.out.2.1, HE.out.2.2]
      obtain ⟨A', hsl, hby⟩ := slice_from (P := Tryd.prog) Tryd.underlying22 size_u8 ad 1 j c hnc
      have HY := Lib.hid (show Byt w B A' j r from hby _ _ _ ha)
      clear hby ha
      rw [show ((1 : Nat) : Int) = 1 from rfl] at hsl
      rcases (by omega : u.toNat = 0 ∨ u.toNat = 1) with hz | hz
      · have HV := Lib.hid (show false = (u == 1) from by rw [show u = 0 from UInt8.toNat_inj.1 hz]; rfl)
        rw [hz] at hd0
        clear h1 hz
        go_enter Tryd.func17, Tryd.ntmps17
        go_wp2
        go_quiet (fail)
        go_wp2
        go_ret3
        exact TBPost.byt ((HY.out.drewN _).more hB) HV.out rfl (below_drewN (Below.refl _ _) _)
      · have HV := Lib.hid (show true = (u == 1) from by rw [show u = 1 from UInt8.toNat_inj.1 hz]; rfl)
        rw [hz] at hd0
        clear h1 hz
        go_enter Tryd.func17, Tryd.ntmps17
        go_wp2
        go_quiet (fail)
        go_wp2
        go_ret3
        exact TBPost.byt ((HY.out.drewN _).more hB) HV.out rfl (below_drewN (Below.refl _ _) _)
    · have HE := Lib.hid (show tbR (u :: r) = [] ∧ false = tbV (u :: r) ∧ 3 = tbE (u :: r) from by
        refine ⟨by simp [tbR, h1], ?_, by simp [tbE, h1]⟩
        have : u ≠ 1 := fun q => h1 (by rw [q]; decide)
        simp [tbV, this])
      have h2 : (1 : Int) < (u.toNat : Int) := by omega
      clear ha
      go_enter Tryd.func17, Tryd.ntmps17
      go_wp2
      go_ret3
      exact TBPost.nil_ HE.out.1 HE.out.2.1 HE.out.2.2 (Below.refl _ _)

/-! The calls of alive, at their own arguments. -/
theorem iput_1 (w : World) (hT : Tab w) : Calls Tryd.prog 6 #[.int .i64 1, .int .i64 (-1)] w (PutPost w [127] 0) := iput_any 1 (-1) w hT (by omega)
theorem itake_1 (A : Option Addr) (c B : Nat) (w : World) (hT : Tab w) (ha : Byt w B A 2 [127, 9]) (hnc : 2 ≤ c) (hB : B ≤ w.heap.size) :
    Calls Tryd.prog 14 #[.int .i64 1, .slice A 2 c] w (ITakePost w (-1) [9] 0) := itake_any 1 A 2 c B [127, 9] w hT ha hnc hB (by omega)
theorem putbool_t (w : World) : Calls Tryd.prog 19 #[.bool true] w (PBPost w 1) := putbool_any true w
theorem putbool_f (w : World) : Calls Tryd.prog 19 #[.bool false] w (PBPost w 0) := putbool_any false w
theorem takebool_1 (A : Option Addr) (c B : Nat) (w : World) (ha : Byt w B A 1 [1]) (hnc : 1 ≤ c) (hB : B ≤ w.heap.size) :
    Calls Tryd.prog 16 #[.slice A 1 c] w (TBPost w true [] 0) := takebool_any A 1 c B [1] w ha hnc hB (by omega)
theorem least_2 (w : World) (hT : Tab w) : Calls Tryd.prog 10 #[.int .i64 2] w fun e w' => e = .returned (.tuple #[.int .i64 (-32768), .int .i64 0]) ∧ Below w.heap.size w w' := least_any 2 w hT
theorem icmp_10 (w : World) : Calls Tryd.prog 20 #[.int .i64 (-1), .int .i64 0] w fun e w' => e = .returned (.int .i64 (-1)) ∧ w = w' := icmp_any (-1) 0 w
theorem byt_two (w : World) (e : TypeId) (a b : UInt8) {x y : Int} (hx : x = (a.toNat : Int)) (hy : y = (b.toNat : Int)) : Byt (w.alloc (.cells #[.int .u8 x, .int .u8 y] e)) (w.heap.size + 1) (some ⟨w.heap.size, 0, none⟩) 2 [a, b] := by
  subst hx hy
  exact (Row.new w e [a, b]).byt rfl (by unfold maxLen; omega) (by omega)

set_option maxHeartbeats 1000000 in
theorem alive_any (w : World) (hT : Tab w) : Calls Tryd.prog 13 #[] w fun e w' => e = .returned (.bool true) ∧ Below w.heap.size w w' := by
  have HT := Lib.hid (fun W (h : Below w.heap.size w W) => hT.below h)
  clear hT
  go_enter Tryd.func13, Tryd.ntmps13
  go_wp2_with fail
  (with_reducible refine (iput_1 _ (HT.out _ (Below.refl _ _))).mono ?_)
  rintro e w1 ⟨A1, n1, c1, rfl, hby1, hbel1⟩
  obtain rfl : n1 = 1 := hby1.1.symm
  have HB1 := Lib.hid hbel1
  have HY1 := Lib.hid hby1
  clear hby1 hbel1
  go_wp2_with fail
  (with_reducible refine (itake_1 _ _ _ _ (HT.out _ (HB1.out.alloc HB1.out.size _)) (byt_two w1 5 127 9 (x := 127) (y := 9) rfl rfl) (by omega) (by simp)).mono ?_)
  rintro e w2 ⟨A2, n2, c2, rfl, hby2, _, hbel2⟩
  obtain rfl : n2 = 1 := hby2.1.symm
  have hbel2' := ((Below.refl w1.heap.size w1).alloc (Nat.le_refl _) (.cells #[.int .u8 127, .int .u8 9] 5)).trans (hbel2.mono (by simp))
  have HB2 := Lib.hid (HB1.out.trans (hbel2'.mono HB1.out.size))
  have HY2 := Lib.hid ((HY1.out.below hbel2').more hbel2'.size)
  clear hby2 hbel2 hbel2'
  go_wp2_with fail
  (with_reducible refine (putbool_t _).mono ?_)
  rintro e w3 ⟨A3, c3, rfl, hby3, hc3, hbel3⟩
  have HB3 := Lib.hid (HB2.out.trans (hbel3.mono HB2.out.size))
  have HY3 := Lib.hid ((HY2.out.below hbel3).more hbel3.size)
  have HT3 := Lib.hid hby3
  clear hbel3 hby3
  go_wp2_with fail
  (with_reducible refine (takebool_1 _ _ _ _ HT3.out hc3 (Nat.le_refl _)).mono ?_)
  rintro e w4 ⟨A4, n4, c4, rfl, hby4, hbel4⟩
  obtain rfl : n4 = 0 := hby4.1.symm
  have HB4 := Lib.hid (HB3.out.trans (hbel4.mono HB3.out.size))
  have HY4 := Lib.hid ((HY3.out.below hbel4).more hbel4.size)
  clear hbel4 hby4
  go_wp2_with fail
  (with_reducible refine (least_2 _ (HT.out _ HB4.out)).mono ?_)
  rintro e w5 ⟨rfl, hbel5⟩
  have HB5 := Lib.hid (HB4.out.trans (hbel5.mono HB4.out.size))
  have HY5 := Lib.hid (HY4.out.below hbel5)
  clear hbel5
  obtain ⟨ad, u, rfl, _, hu, hc0⟩ := HY5.out.at_ (k := 0) (by omega)
  obtain rfl : 127 = u := by simpa using hu
  have hd0 : w5.cell? ad = some (.int .u8 127) := by simpa [Addr.add] using hc0
  clear hc0 hu
  go_wp2_with (go_at_call 20; refine (icmp_10 _).mono ?_; rintro e w' ⟨rfl, rfl⟩)
  go_ret
  exact ⟨rfl, HB5.out⟩
end Go.Proofs.YtfflfgpjdgdlmaaDoor
