/-
  What the statements' own alive answers: yes.
-/
import Derived.Test.YtdpddkpfllioiaaDoorTupleGet
import Derived.Test.YtdpddkpfllioiaaDoorTupleCmp
import Derived.Test.YtdpddkpfllioiaaDoorTupleParse
import Derived.Lib.SlBytesConst
namespace Go.Proofs.YtdpddkpfllioiaaDoor
open Go.RowKit

/-- Both tables lie as the program's text lays them. -/
def Tabs (w : World) : Prop := Tab w ∧ Nam w
theorem Tabs.below {w w' : World} (h : Tabs w) (hb : Below w.heap.size w w') : Tabs w' := ⟨h.1.below hb, h.2.below hb⟩
def aF : List Fd := [⟨1, true⟩, ⟨10, false⟩]
def aV : List Vl := [⟨5, 0, [], false⟩, ⟨0, 0, [97], false⟩]
def aT : List UInt8 := [45, 117, 56, 44, 116, 101, 120, 116]
theorem a_parse : prsE aT = 0 ∧ prsL aT = aF := by
  have h : parseAll (partsL aT) = some aF := by rfl
  exact prs_ok (by decide) h (by decide)
theorem a_put : putsE aF aV = 0 ∧ putsL aF aV = [250, 97, 0, 0] := by
  obtain ⟨h1, h2⟩ := putsE_ok (fs := aF) (vs := aV) (by decide) rfl (by decide) (by decide)
  exact ⟨h1, h2.trans (by decide)⟩
theorem a_get : getsE aF [250, 97, 0, 0] = 0 ∧ getsV aF [250, 97, 0, 0] = aV := by
  have h : takes aF [250, 97, 0, 0] = .ok aV [] := by rfl
  exact gets_ok (by decide) (by decide) h (by decide)
theorem a_first : fstE aF [250, 97, 0, 0] 1 = 0 ∧ fstL aF [250, 97, 0, 0] 1 = [250] := by
  have h : takes (aF.take 1) [250, 97, 0, 0] = .ok [⟨5, 0, [], false⟩] [97, 0, 0] := by rfl
  have q : fstE aF [250, 97, 0, 0] 1 = 0 := by unfold fstE; rw [if_neg (by decide), if_neg (by decide)]; show (takes (aF.take 1) [250, 97, 0, 0]).E = 0; rw [h]; rfl
  refine ⟨q, ?_⟩
  unfold fstL
  rw [if_pos q]
  show List.take (4 - (takes (aF.take 1) [250, 97, 0, 0]).R.length) _ = _
  rw [h]
  rfl
theorem a_text : txL aF = aT ∧ chkL aF = 0 := ⟨by decide, by decide⟩
theorem a_cmp : cmpT aF aV aV = 0 := by decide
theorem vls_two {W : World} {g : Nat} {A1 A2 : Option Addr} {n1 c1 n2 c2 : Nat} {a b : Vl} (h : Blk W g #[.int .u64 (a.u : Int), .int .i64 a.i, .slice A1 n1 c1, .bool a.t, .int .u64 (b.u : Int), .int .i64 b.i, .slice A2 n2 c2, .bool b.t])
    (ha : Byt W W.heap.size A1 n1 a.l) (hac : n1 ≤ c1) (hb : Byt W W.heap.size A2 n2 b.l) (hbc : n2 ≤ c2) : Vls W W.heap.size (some ⟨g, 0, none⟩) 2 [a, b] := by
  refine ⟨[[.int .u64 (a.u : Int), .int .i64 a.i, .slice A1 n1 c1, .bool a.t], [.int .u64 (b.u : Int), .int .i64 b.i, .slice A2 n2 c2, .bool b.t]], ⟨rfl, by unfold maxLen; omega, by simp, fun _ => ⟨_, rfl, h.lt, ?_⟩⟩, ⟨rfl, ?_⟩⟩
  · intro j i c u hj hi
    have hadd : ∀ m, (⟨g, 0, none⟩ : Addr).add m = ⟨g, m, none⟩ := fun m => by rw [Addr.add_mid, Nat.zero_add]
    rw [hadd, h.cell]
    match j, hj with
    | 0, hj =>
      simp at hj
      subst hj
      match i, hi with
      | 0, hi => simpa using hi
      | 1, hi => simpa using hi
      | 2, hi => simpa using hi
      | 3, hi => simpa using hi
    | 1, hj =>
      simp at hj
      subst hj
      match i, hi with
      | 0, hi => simpa using hi
      | 1, hi => simpa using hi
      | 2, hi => simpa using hi
      | 3, hi => simpa using hi
  · intro j c v hc hv
    match j, hc, hv with
    | 0, hc, hv => simp at hc hv; subst hc hv; exact ⟨A1, n1, c1, rfl, ha, hac⟩
    | 1, hc, hv => simp at hc hv; subst hc hv; exact ⟨A2, n2, c2, rfl, hb, hbc⟩

theorem byt_mark (w : World) (e : TypeId) (fr : Nat × Nat) (u : UInt8) : Byt (w.alloc (.cells #[.int .u8 (u.toNat : Int)] e fr)) (w.heap.size + 1) (some ⟨w.heap.size, 0, none⟩) 1 [u] := by
  refine ⟨rfl, by unfold maxLen; omega, fun _ => ⟨_, rfl, Nat.lt_succ_self _, fun j x hx => ?_⟩⟩
  match j, hx with
  | 0, hx =>
    simp at hx
    subst hx
    exact (World.cell?_alloc_mark w _ e fr 0).trans rfl
theorem a_put5 (A1 A2 : Option Addr) (c1 c2 B : Nat) (V : World) (hT : Tabs V) (hf : Fds V B A1 2 aF) (hv : Vls V B A2 2 aV) (hB : B ≤ V.heap.size) : Calls Tryd.prog 9 #[.slice A1 2 c1, .slice A2 2 c2] V (TPost V [250, 97, 0, 0] 0) := by
  have q := tput_any A1 A2 2 c1 2 c2 B aF aV V hT.1 hf hv hB (by intro v hv; simp [aV] at hv; rcases hv with rfl | rfl <;> exact ⟨⟨by decide, by decide⟩, by decide⟩)
  rw [a_put.1, a_put.2] at q
  exact q
theorem a_get5 (A1 A2 : Option Addr) (c1 c2 B : Nat) (V : World) (hT : Tabs V) (hf : Fds V B A1 2 aF) (hv : Byt V B A2 4 [250, 97, 0, 0]) (hc : 4 ≤ c2) (hB : B ≤ V.heap.size) : Calls Tryd.prog 18 #[.slice A1 2 c1, .slice A2 4 c2] V (VEPost V aV 0) := by
  have q := tget_any A1 A2 2 c1 4 c2 B aF _ V hT.1 hf hv hc hB
  rw [a_get.1, a_get.2] at q
  exact q
theorem a_first5 (A1 A2 : Option Addr) (c1 c2 B : Nat) (V : World) (hT : Tabs V) (hf : Fds V B A1 2 aF) (hc1 : 2 ≤ c1) (hv : Byt V B A2 4 [250, 97, 0, 0]) (hc : 4 ≤ c2) (hB : B ≤ V.heap.size) : Calls Tryd.prog 21 #[.slice A1 2 c1, .slice A2 4 c2, .int .i64 1] V (TPost V [250] 0) := by
  have q := tfirst_any A1 A2 2 c1 4 c2 B 1 aF _ V hT.1 hf hc1 hv hc hB (by decide)
  rw [a_first.1, a_first.2] at q
  exact q
theorem a_text5 (A1 : Option Addr) (c1 B : Nat) (V : World) (hT : Tabs V) (hf : Fds V B A1 2 aF) (hB : B ≤ V.heap.size) : Calls Tryd.prog 13 #[.slice A1 2 c1] V (SEPost V aT 0) := by
  have q := ttext_any A1 2 c1 B aF V hT.2 hf hB
  rw [a_text.1, a_text.2] at q
  exact q
theorem a_cmp5 (A1 A2 : Option Addr) (c1 c2 B : Nat) (V : World) (hf : Fds V B A1 2 aF) (hv : Vls V B A2 2 aV) (hB : B ≤ V.heap.size) : Calls Tryd.prog 25 #[.slice A1 2 c1, .slice A2 2 c2, .slice A2 2 c2] V (fun e w' => e = .returned (.int .i64 0) ∧ Below V.heap.size V w') := by
  have q := tcmp_any A1 A2 A2 2 c1 2 c2 2 c2 B aF aV aV V hf hv hv hB
  rw [a_cmp] at q
  exact q
theorem a_check5 (A1 : Option Addr) (c1 B : Nat) (V : World) (hf : Fds V B A1 2 aF) (hB : B ≤ V.heap.size) : Calls Tryd.prog 16 #[.slice A1 2 c1] V (fun e w' => e = .returned (.int .i64 0) ∧ Below V.heap.size V w') := by
  have q := tcheck_any A1 2 c1 B aF V hf hB
  rw [a_text.2] at q
  exact q

set_option maxRecDepth 100000 in
set_option maxHeartbeats 4000000 in
theorem alive_any (w : World) (hT : Tabs w) : Calls Tryd.prog 8 #[] w fun e w' => e = .returned (.bool true) ∧ Below w.heap.size w w' := by
  have HT := Lib.hid (fun V (h : Below w.heap.size w V) => hT.below h)
  clear hT
  have HP := Lib.hid (show Calls Tryd.prog 23 #[.string ⟨#[45, 117, 56, 44, 116, 101, 120, 116]⟩] w (PrPost w aF 0) from by
    have q := tparse_any aT w (HT.out _ (Below.refl _ _)).2 (by decide)
    rw [a_parse.1, a_parse.2] at q
    exact q)
  go_enter Tryd.func8, Tryd.ntmps8
  go_wp2_with fail
  (with_reducible refine HP.out.mono ?_)
  rintro e w1 ⟨A1, n1, c1, rfl, hf1, nc1, h1⟩
  obtain rfl : n1 = 2 := hf1.length.symm
  have F1 := Lib.hid hf1
  have B1 := Lib.hid h1
  clear h1 hf1
  have hcv := Lib.run_convert_bytes_const (P := Tryd.prog) w1 26 5 #[.int .u8 97] 1 1 Tryd.underlying26 Tryd.underlying5
  go_wp2_with fail
  clear hcv
  generalize hW : (w1.alloc (.cells #[.int .u8 97] 5 (1, 2))).alloc (.cells #[.int .u64 5, .int .i64 0, .slice none 0 0, .bool false, .int .u64 0, .int .i64 0, .slice (some ⟨w1.heap.size, 0, none⟩) 1 1, .bool false] 69) = W
  have BW := Lib.hid (show Below w1.heap.size w1 W from by subst hW; exact ((Below.refl _ _).alloc (Nat.le_refl _) _).alloc (by simp) _)
  have V1 := Lib.hid (show Vls W W.heap.size (some ⟨w1.heap.size + 1, 0, none⟩) 2 aV from by
    have hby : Byt W W.heap.size (some ⟨w1.heap.size, 0, none⟩) 1 [97] := by subst hW; exact ((byt_mark w1 5 (1, 2) 97).alloc (by simp) _).more (by simp)
    have hbl : Blk W (w1.heap.size + 1) #[.int .u64 5, .int .i64 0, .slice none 0 0, .bool false, .int .u64 0, .int .i64 0, .slice (some ⟨w1.heap.size, 0, none⟩) 1 1, .bool false] := by subst hW; have := Blk.new (w1.alloc (.cells #[.int .u8 97] 5 (1, 2))) 69 #[.int .u64 5, .int .i64 0, .slice none 0 0, .bool false, .int .u64 0, .int .i64 0, .slice (some ⟨w1.heap.size, 0, none⟩) 1 1, .bool false]; rwa [World.size_alloc] at this
    exact vls_two (a := ⟨5, 0, [], false⟩) (b := ⟨0, 0, [97], false⟩) hbl Byt.none_ (Nat.le_refl _) hby (Nat.le_refl _))
  have BB := Lib.hid (show Below w.heap.size w W from B1.out.trans (BW.out.mono B1.out.size))
  have F2 := Lib.hid ((F1.out.below BW.out).more BW.out.size)
  clear hW
  (with_reducible refine (a_put5 _ _ _ _ _ _ (HT.out _ BB.out) F2.out V1.out (Nat.le_refl _)).mono ?_)
  rintro e w2 ⟨A2, n2, c2, rfl, y2, nc2, h2⟩
  obtain rfl : n2 = 4 := y2.1.symm
  have B2 := Lib.hid (BB.out.trans (h2.mono BB.out.size))
  have F3 := Lib.hid ((F2.out.below h2).more h2.size)
  have Y2 := Lib.hid y2
  clear h2 y2
  go_wp2_with fail
  (with_reducible refine (a_get5 _ _ _ _ _ _ (HT.out _ B2.out) F3.out Y2.out nc2 (Nat.le_refl _)).mono ?_)
  rintro e w3 ⟨A3, n3, c3, rfl, v3, nc3, h3⟩
  obtain rfl : n3 = 2 := v3.length.symm
  have B3 := Lib.hid (B2.out.trans (h3.mono B2.out.size))
  have F4 := Lib.hid ((F3.out.below h3).more h3.size)
  have Y3 := Lib.hid ((Y2.out.below h3).more h3.size)
  have V3 := Lib.hid v3
  clear h3 v3
  go_wp2_with fail
  (with_reducible refine (a_first5 _ _ _ _ _ _ (HT.out _ B3.out) F4.out nc1 Y3.out nc2 (Nat.le_refl _)).mono ?_)
  rintro e w4 ⟨A4, n4, c4, rfl, y4, nc4, h4⟩
  obtain rfl : n4 = 1 := y4.1.symm
  have B4 := Lib.hid (B3.out.trans (h4.mono B3.out.size))
  have F5 := Lib.hid ((F4.out.below h4).more h4.size)
  have Y4 := Lib.hid ((Y3.out.below h4).more h4.size)
  have V4 := Lib.hid ((V3.out.below h4).more h4.size)
  clear h4 y4
  go_wp2_with fail
  (with_reducible refine (a_text5 _ _ _ _ (HT.out _ B4.out) F5.out (Nat.le_refl _)).mono ?_)
  rintro e w5 ⟨rfl, h5⟩
  have B5 := Lib.hid (B4.out.trans (h5.mono B4.out.size))
  have F6 := Lib.hid ((F5.out.below h5).more h5.size)
  have Y5 := Lib.hid ((Y4.out.below h5).more h5.size)
  have V5 := Lib.hid ((V4.out.below h5).more h5.size)
  clear h5
  obtain ⟨ad, u, rfl, hlt, hu, hc0⟩ := Y5.out.at_ (k := 0) (by decide)
  obtain rfl : 250 = u := by simpa using hu
  have hd0 : w5.cell? ad = some (.int .u8 250) := by simpa [Addr.add] using hc0
  obtain ⟨ad3, v, Ax, mx, cx, rfl, hlt3, hv, g0, g1, g2, g3, _⟩ := V5.out.at_ (j := 0) (by decide)
  obtain rfl : (⟨5, 0, [], false⟩ : Vl) = v := by simpa [aV] using hv
  have he0 : w5.cell? ad3 = some (.int .u64 5) := by simpa [Addr.add] using g0
  have hst : ((bst aT).toList == [45, 117, 56, 44, 116, 101, 120, 116]) = true := by rw [Lib.toList_data, bst_toList]; decide
  clear hu hc0 hv g0 g1 g2 g3
  go_wp2_with fail
  (with_reducible refine (a_cmp5 _ _ _ _ _ _ F6.out V5.out (Nat.le_refl _)).mono ?_)
  rintro e w6 ⟨rfl, h6⟩
  have B6 := Lib.hid (B5.out.trans (h6.mono B5.out.size))
  have F7 := Lib.hid ((F6.out.below h6).more h6.size)
  clear h6 hd0 he0
  go_wp2_with fail
  (with_reducible refine (a_check5 _ _ _ _ F7.out (Nat.le_refl _)).mono ?_)
  rintro e w7 ⟨rfl, h7⟩
  have B7 := Lib.hid (B6.out.trans (h7.mono B6.out.size))
  clear h7
  go_wp2
  go_ret
  exact ⟨rfl, B7.out⟩
end Go.Proofs.YtdpddkpfllioiaaDoor
