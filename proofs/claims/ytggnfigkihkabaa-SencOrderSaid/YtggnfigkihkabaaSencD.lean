/-
  What the document's Begins answers; the calls at each statement's end (alive).
-/
import Derived.Test.YtggnfigkihkabaaSencC
namespace Go.Proofs.Ytggnfigkihkabaa
open Go.RowKit

def begB (k p : List UInt8) : Bool := decide (lcp k p = p.length)
set_option maxHeartbeats 400000 in
theorem rbegins_any (A A' : Option Addr) (n n' c c' B : Nat) (l m : List UInt8) (w : World) (ha : Byt w B A n l) (hb : Byt w B A' n' m) :
    Calls Try.prog 16 #[.slice A n c, .slice A' n' c'] w fun e w' => e = .returned (.bool (begB l m)) ∧ Still w w' := by
  have HN' := Lib.hid hb.1
  go_enter Try.func16, Try.ntmps16
  go_wp2_with (go_at_call 20; refine (rcommon_any _ _ _ _ _ _ _ l m _ ha hb).mono ?_; rintro e w' ⟨rfl, q, rfl⟩)
  go_ret
  exact ⟨ret_bool (by unfold begB; rw [Bool.eq_iff_iff]; have := HN'.out; simp; omega), (by repeat (first | exact Still.refl _ | apply Still.step))⟩

theorem put_0 (A : Option Addr) (c B : Nat) (w : World) (ha : Byt w B A 1 [0]) (hB : B ≤ w.heap.size) :
    Calls Try.prog 9 #[.slice A 1 c] w (SlPost w [0, 255, 0, 0]) := sput_any A 1 c B [0] w ha hB (by omega)
theorem take_5 (A : Option Addr) (c B : Nat) (w : World) (ha : Byt w B A 5 [0, 255, 0, 0, 7]) (hc : 5 ≤ c) (hB : B ≤ w.heap.size) :
    Calls Try.prog 13 #[.slice A 5 c] w (STakePost w [0] [7] 0) := stake_any A 5 c B [0, 255, 0, 0, 7] w ha hc hB (by omega)
theorem end_4 (A : Option Addr) (c B : Nat) (w : World) (ha : Byt w B A 4 [0, 255, 0, 0]) :
    Calls Try.prog 15 #[.slice A 4 c] w fun e w' => e = .returned (.tuple #[.int .i64 4, .int .i64 0]) ∧ w = w' := end_any A 4 c B [0, 255, 0, 0] w ha
theorem len_1 (A : Option Addr) (c B : Nat) (w : World) (ha : Byt w B A 1 [0]) :
    Calls Try.prog 10 #[.slice A 1 c] w fun e w' => e = .returned (.int .i64 4) ∧ Still w w' := len_any A 1 c B [0] w ha (by omega)
theorem oth_4 (A : Option Addr) (c B : Nat) (w : World) (ha : Byt w B A 4 [0, 255, 0, 0]) (hB : B ≤ w.heap.size) :
    Calls Try.prog 11 #[.slice A 4 c] w (SlPost w [255, 0, 255, 255]) := oth_any A 4 c B [0, 255, 0, 0] w ha hB (by omega)

set_option maxHeartbeats 2000000 in
theorem alive_any (w : World) : Calls Try.prog 6 #[] w fun e w' => e = .returned (.bool true) ∧ Below w.heap.size w w' := by
  go_enter Try.func6, Try.ntmps6
  go_wp2_with fail
  (with_reducible refine (put_0 _ _ _ _ (byt_one w 5 (z := 0) (u := 0) rfl) (by simp)).mono ?_)
  rintro e w1 ⟨A1, n1, c1, rfl, y1, hc1, h1⟩
  obtain rfl : n1 = 4 := y1.1.symm
  have B1 := Lib.hid (((Below.refl w.heap.size w).alloc (Nat.le_refl _) (.cells #[.int .u8 0] 5)).trans (h1.mono (by simp)))
  have Y1 := Lib.hid y1
  clear y1 h1 hc1
  go_wp2_with (first
    | (at_builtin
       refine wpList_append_byt _ rfl (.const (.slice none 0 0)) (.tmp 10) _ rfl Try.underlying22 info_u8 w1.heap.size (.slice none 0 0) 0 [] rfl (Mine.nil _ _ _) w1.heap.size A1 4 c1 [0, 255, 0, 0] rfl Y1.out (by omega) (Nat.le_refl _) ?_
       intro v2 w2 hm2 hg2 _
       rw [Nat.zero_add, List.nil_append] at hm2
       have HM2 := Lib.hid hm2
       have B2 := Lib.hid ((Below.refl w1.heap.size w1).grown hg2 (Nat.le_refl _) (by simp [Value.ownBlock]))
       have s2 := B2.out.size
       clear hm2 hg2)
    | (at_builtin
       refine wpList_append_byt _ rfl (.tmp 11) (.tmp 12) _ rfl Try.underlying22 info_u8 w1.heap.size _ 4 _ rfl (HM2.out.alloc _) (w2.heap.size + 1) (some ⟨w2.heap.size, 0, none⟩) 1 1 [7] rfl (byt_one w2 _ rfl) (by omega) (by simp; omega) ?_
       intro v3 w3 hm3 hg3 _
       obtain ⟨A3, c3, rfl⟩ := hm3.slice
       have HM3 := Lib.hid hm3
       have B3 := Lib.hid ((B2.out.alloc s2 _).grown hg3 (by simp; omega) (fun j hj => (HM2.out.lt j hj).1))
       have s3 := B3.out.size
       clear hm3 hg3))
  (with_reducible refine (take_5 _ _ _ _ HM3.out.byt HM3.out.room (Nat.le_refl _)).mono ?_)
  rintro e w4 ⟨A4, n4, c4, A5, n5, c5, rfl, y4, y5, _, _, h4⟩
  obtain rfl : n4 = 1 := y4.1.symm
  obtain rfl : n5 = 1 := y5.1.symm
  have B4 := Lib.hid (B3.out.trans (h4.mono s3))
  have Y4 := Lib.hid y4
  have HY1 := Lib.hid (Y1.out.below B4.out)
  have s4 := B4.out.size
  clear h4 y4 y5
  go_wp2_with fail
  (with_reducible refine (end_4 _ _ _ _ HY1.out).mono ?_)
  rintro e w' ⟨rfl, rfl⟩
  obtain ⟨ad, u, rfl, _, hu, hd⟩ := HY1.out.at_ (k := 1) (by omega)
  obtain rfl : 255 = u := by simpa using hu
  have hd1 : w4.cell? ⟨ad.block, ad.off + 1, none⟩ = some (.int .u8 255) := hd
  obtain ⟨ad4, u4, rfl, _, hu4, hd4⟩ := Y4.out.at_ (k := 0) (by omega)
  obtain rfl : 0 = u4 := by simpa using hu4
  have hd5 : w4.cell? ad4 = some (.int .u8 0) := by simpa [Addr.add] using hd4
  clear hd hd4 hu hu4
  go_wp2_with fail
  (with_reducible refine (len_1 _ _ _ _ Y4.out).mono ?_)
  rintro e w5 ⟨rfl, q5, rfl⟩
  go_wp2_with fail
  (with_reducible refine (oth_4 _ _ _ _ (HY1.out.drewN q5) (by simpa using s4)).mono ?_)
  rintro e w6 ⟨A6, n6, c6, rfl, y6, _, h6⟩
  obtain rfl : n6 = 4 := y6.1.symm
  have B6 := Lib.hid ((below_drewN B4.out q5).trans (h6.mono (by simpa using s4)))
  have s6 := B6.out.size
  clear h6 y6
  go_wp2_with fail
  (with_reducible refine (oth_4 _ _ _ _ (Y1.out.below B6.out) s6).mono ?_)
  rintro e w7 ⟨A7, n7, c7, rfl, y7, _, h7⟩
  obtain rfl : n7 = 4 := y7.1.symm
  have B7 := Lib.hid (B6.out.trans (h7.mono s6))
  obtain ⟨ad7, u7, rfl, _, hu7, hd7⟩ := y7.at_ (k := 0) (by omega)
  obtain rfl : 255 = u7 := by simpa using hu7
  have hd8 : w7.cell? ad7 = some (.int .u8 255) := by simpa [Addr.add] using hd7
  clear h7 y7 hd7 hu7
  go_wp2
  go_ret
  exact ⟨rfl, B1.out.trans (B7.out.mono B1.out.size)⟩
end Go.Proofs.Ytggnfigkihkabaa
