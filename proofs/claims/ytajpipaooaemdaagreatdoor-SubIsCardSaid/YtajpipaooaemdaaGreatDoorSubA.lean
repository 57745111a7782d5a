/-
  Whether a tree is the canonical one of pairs, with keys of up to 990 bytes.
  Layer 18's own words: the three trees that every statement asks for.
-/
import Derived.Test.YtajpipaooaemdaaGreatDoorPutP
import Derived.Test.YtajpipaooaemdaaGreatDoorLawW
import Derived.Test.YtajpipaooaemdaaGreatDoorSubT
namespace Go.Proofs.YtajpipaooaemdaaGreatDoor
open Go.RowKit Go.Shelf
attribute [local go_sem] Oper.semAt_some

theorem Can.o9 {ps : List PV} {T : Nn × Fo} (h : Can ps T) (hk : ∀ p ∈ ps, p.key.length ≤ 990) (hn : ps.length ≤ 300) (hv : ∀ p ∈ ps, 0 ≤ p.val ∧ p.val ≤ 18446744073709551615) : CanO ps (some T) := by
  have hM : ∀ p ∈ ps.map kvP, p.1.length ≤ 990 := fun p hp => by obtain ⟨q, hq, rfl⟩ := List.mem_map.1 hp; exact hk q hq
  have hc := h.f
  have hok := cT_ok 1 991 (ps.map kvP) (fun p hp => by
    obtain ⟨q, hq, rfl⟩ := List.mem_map.1 hp
    exact ⟨by have := hk q hq; show q.key.length ≤ _; omega, hv q hq⟩)
  rw [h.is_ 991 (fun p hp => by have := hk p hp; omega)] at hok
  have o1 : T.1.ok := hok.1
  have o2 : T.2.ok := Fo.ok_by 1 hok.2
  have h1 := hc.points
  have h2 := hc.nodes
  have hct := hc.count
  rw [List.length_map] at h1 h2 hct
  have hd := hc.depth (M := 990) hM
  have htn : 1 + T.2.tn ≤ 600 := by unfold tnT at h2; omega
  have hsl := oshL_len o1 o2 (m := 600) htn
  exact ⟨hc.fits (fun p hp => by have := hM p hp; omega) (by rw [List.length_map]; omega), ⟨o1, o2⟩, ⟨lfN_by 1 h.top.1, Fo.lf_by 1 (Fo.wf_lf h.wf)⟩, by
    refine Nat.le_trans hsl ?_
    omega, by show tnT _ ≤ 1000; unfold tnT; omega, hct, hc.listed, hc.fine (fun p hp => by have := hM p hp; omega), by omega⟩
theorem OCan.o9 {ps : List PV} {t : Option (Nn × Fo)} (h : OCan ps t) (hk : ∀ p ∈ ps, p.key.length ≤ 990) (hn : ps.length ≤ 300) (hv : ∀ p ∈ ps, 0 ≤ p.val ∧ p.val ≤ 18446744073709551615) : CanO ps t := by
  cases t with
  | none =>
    obtain rfl : ps = [] := h
    exact can_o (ps := []) List.Pairwise.nil (fun p hp => by cases hp) (Nat.zero_le _) (fun p hp => by cases hp)
  | some T => exact Can.o9 h hk hn hv
set_option maxRecDepth 100000 in
/-- Whether a tree is the canonical one of pairs. -/
theorem pas9_any {t : Option (Nn × Fo)} {p A : Option Addr} {n c B : Nat} {ps : List PV} {w : World} (htb : Tb w) (ht : OTre w (· < w.heap.size) t p) (ha : Prs w B A n ps) (hk : Kps w B ps) (hB : B ≤ w.heap.size) (hn : n ≤ 300) (hnc : n ≤ c) (hr : Rsn ps) (hl : ∀ p ∈ ps, p.key.length ≤ 990) (hv : ∀ p ∈ ps, 0 ≤ p.val ∧ p.val ≤ 18446744073709551615) (hc : OCan ps t) :
    Calls Tryz.prog 15 #[.pointer p, .slice A n c] w fun e w' => e = .returned (.bool true) ∧ Below w.heap.size w w' := by
  have hlen := ha.1
  have hO := hc.o9 hl (by omega) hv
  have hO2 := (bTr_ocan 1 hr 991 (fun p hp => by have := hl p hp; omega)).1.o9 hl (by omega) hv
  have hsh := hc.sh 991 (fun p hp => by have := hl p hp; omega)
  have hle : 0 < w.heap.size := htb.lt
  obtain ⟨s, hs⟩ : ∃ s, bstr (oshL t) = s := ⟨_, rfl⟩
  have H1 := shape_any t p w.heap.size w ht hO.ok htb hle (Nat.le_refl _) (by have := hO.sh; omega)
  have H2 := Lib.hid (fun (V : World) (hb : Below w.heap.size w V) => rBuild_any 991 n c B A ps V (ha.below (hb.mono hB)) (hk.below (hb.mono hB)) (Nat.le_trans hB hb.size) (by omega) hnc (fun p hp => by have := hl p hp; omega) (rsn_rel hr))
  have H3 := Lib.hid (fun (V : World) (cs : List Value) (h : ODno V (bTr 1 991 (rel 0 ps)) cs) => show Calls Tryz.prog 32 #[.agg cs.toArray] V fun e w' => e = .returned (.string s) ∧ Below V.heap.size V w' from by
    have h1 := rshape_any _ V cs h hO2.lf hO2.ok hO2.sh
    rwa [hsh, hs] at h1)
  rw [hs] at H1
  have H1 := Lib.hid H1
  clear htb ht ha hk hr hl hv hc hO hO2 hsh hs hle
  go_enter Tryz.func15, Tryz.ntmps15
  go_wp2_with fail
  (with_reducible refine H1.out.mono ?_)
  rintro e w1 ⟨rfl, b1⟩
  have B1 := Lib.hid b1
  have H2' := Lib.hid (H2.out w1 b1)
  clear b1 H1 H2
  go_wp2_with fail
  (with_reducible refine H2'.out.mono ?_)
  rintro e w2 ⟨cs, rfl, h2, b2⟩
  have B2 := Lib.hid (B1.out.trans (b2.mono B1.out.size))
  have H3' := Lib.hid (H3.out w2 cs h2)
  clear b2 h2 H2' H3
  go_wp2_with fail
  (with_reducible refine H3'.out.mono ?_)
  rintro e w3 ⟨rfl, b3⟩
  have B3 := Lib.hid (B2.out.trans (b3.mono B2.out.size))
  clear b3 H3'
  have hbe : (s.toList == s.toList) = true := beq_self_eq_true _
  go_wp2_with fail
  go_ret
  exact ⟨rfl, B3.out⟩
end Go.Proofs.YtajpipaooaemdaaGreatDoor

namespace Go.Proofs.YtajpipaooaemdaaGreatDoor
open Go.RowKit Go.Shelf
attribute [local go_sem] Oper.semAt_some

theorem sh_of {qs : List PV} {T : Option (Nn × Fo)} {L : List KV} (h : OCan qs T) (hq : qs.map kvP = L) (f : Nat) (hf : ∀ p ∈ L, p.1.length < f) (hL : L ≠ []) : oshL T = oshL (some (cT 1 f L)) := by
  have h1 := h.sh f (fun p hp => hf (kvP p) (by rw [← hq]; exact List.mem_map.2 ⟨p, hp, rfl⟩))
  rw [← h1, rel_zero, hq]
  unfold bTr
  rw [if_neg hL]
theorem dig (n : Nat) (hn : n < 10) : Lib.decDigits n = [UInt8.ofNat (48 + n)] := by
  rw [Lib.decDigits]
  simp [hn]
  try omega
theorem sal_strip : oshL (some (cT 1 3 [([], 5), ([2], 6)])) = [52, 60, 61, 53, 58, 48, 50, 76, 61, 54, 62] := by
  rw [show cT 1 3 [([], 5), ([2], 6)] = (⟨false, 1, [], 5, true⟩, .cons 2 ⟨true, 1, [], 6, true⟩ .nil .nil) from rfl]
  simp only [oshL, shL, begL, valL, endL, Fo.sh, Fo.len, if_true, if_false, Bool.false_eq_true]
  rw [show Int.toNat 6 = 6 from rfl, show Int.toNat 5 = 5 from rfl, show kindN (0 + 1) = 4 from rfl, dig 6 (by omega), dig 5 (by omega), dig 4 (by omega)]
  decide
theorem sal_under : oshL (some (cT 1 4 [([9, 1], 5), ([9, 1, 2], 6)])) = [52, 60, 48, 57, 48, 49, 61, 53, 58, 48, 50, 76, 61, 54, 62] := by
  rw [show cT 1 4 [([9, 1], 5), ([9, 1, 2], 6)] = (⟨false, 1, [9, 1], 5, true⟩, .cons 2 ⟨true, 1, [], 6, true⟩ .nil .nil) from rfl]
  simp only [oshL, shL, begL, valL, endL, Fo.sh, Fo.len, if_true, if_false, Bool.false_eq_true]
  rw [show Int.toNat 6 = 6 from rfl, show Int.toNat 5 = 5 from rfl, show kindN (0 + 1) = 4 from rfl, dig 6 (by omega), dig 5 (by omega), dig 4 (by omega)]
  decide
theorem sal_sub : oshL (some (cT 1 3 [([1, 2], 6)])) = [76, 48, 49, 48, 50, 61, 54] := by
  rw [show cT 1 3 [([1, 2], 6)] = (⟨true, 1, [1, 2], 6, true⟩, .nil) from rfl]
  simp only [oshL, shL, begL, valL, endL, Fo.sh, Fo.len, if_true]
  rw [show Int.toNat 6 = 6 from rfl, dig 6 (by omega)]
  decide
theorem sal_ok {qs : List PV} {T : Option (Nn × Fo)} {L : List KV} (h : OCan qs T) (hq : qs.map kvP = L) (hl : L.length ≤ 300) (hL : ∀ p ∈ L, p.1.length ≤ 990 ∧ 0 ≤ p.2 ∧ p.2 ≤ 18446744073709551615) : ook T := by
  have hm : ∀ p ∈ qs, kvP p ∈ L := fun p hp => by rw [← hq]; exact List.mem_map.2 ⟨p, hp, rfl⟩
  exact (h.o9 (fun p hp => (hL _ (hm p hp)).1) (by rw [← hq, List.length_map] at hl; exact hl) (fun p hp => (hL _ (hm p hp)).2)).ok
theorem Kept.bel {w w' : World} (h : Kept (fun i => (none : Option Nat) = some i) w w') : Below w.heap.size w w' := h.below (Nat.le_refl _) (fun g q => by cases q)
set_option maxRecDepth 100000 in
set_option maxHeartbeats 4000000 in
theorem salive_any (w : World) (htb : Tb w) : Calls Tryz.prog 7 #[] w fun e w' => e = .returned (.bool true) ∧ Below w.heap.size w w' := by
  obtain ⟨W0, hW0⟩ : ∃ W, (((w.alloc (.cells #[.int .u8 1] 5)).alloc (.cells #[.int .u8 1, .int .u8 2] 5)).alloc (.cells #[.slice (some ⟨w.heap.size, 0, none⟩) 1 1, .int .u64 5, .slice (some ⟨w.heap.size + 1, 0, none⟩) 2 2, .int .u64 6] 53)) = W := ⟨_, rfl⟩
  have b0 : Below w.heap.size w W0 := by
    rw [← hW0]
    exact (((Below.refl _ _).alloc (Nat.le_refl _) _).alloc (by simp) _).alloc (by simp; omega) _
  obtain ⟨ps, hps⟩ : ∃ ps : List PV, [⟨some ⟨w.heap.size, 0, none⟩, 1, 1, [1], 5⟩, ⟨some ⟨w.heap.size + 1, 0, none⟩, 2, 2, [1, 2], 6⟩] = ps := ⟨_, rfl⟩
  have b1 : Byt W0 W0.heap.size (some ⟨w.heap.size, 0, none⟩) 1 [1] := by
    rw [← hW0]
    exact (((byt_one w 5 (u := 1) rfl).below (((Below.refl _ _).alloc (by simp) _).alloc (by simp) _)).more (by simp))
  have b2 : Byt W0 W0.heap.size (some ⟨w.heap.size + 1, 0, none⟩) 2 [1, 2] := by
    rw [← hW0]
    have := byt_two (w.alloc (.cells #[.int .u8 1] 5)) 5 1 2 (x := 1) (y := 2) rfl rfl
    rw [World.size_alloc] at this
    exact (this.below ((Below.refl _ _).alloc (by simp) _)).more (by simp)
  have b3 : Blk W0 (w.heap.size + 1 + 1) #[.slice (some ⟨w.heap.size, 0, none⟩) 1 1, .int .u64 5, .slice (some ⟨w.heap.size + 1, 0, none⟩) 2 2, .int .u64 6] := by
    rw [← hW0]
    have := Blk.new ((w.alloc (.cells #[.int .u8 1] 5)).alloc (.cells #[.int .u8 1, .int .u8 2] 5)) 53 #[.slice (some ⟨w.heap.size, 0, none⟩) 1 1, .int .u64 5, .slice (some ⟨w.heap.size + 1, 0, none⟩) 2 2, .int .u64 6]
    simpa only [World.size_alloc] using this
  have hkps : Kps W0 W0.heap.size ps := fun p hp => by
    subst hps
    simp at hp
    rcases hp with rfl | rfl
    · exact ⟨b1, Nat.le_refl _⟩
    · exact ⟨b2, Nat.le_refl _⟩
  have hprs : Prs W0 W0.heap.size (some ⟨w.heap.size + 1 + 1, 0, none⟩) 2 ps := by
    subst hps
    refine ⟨rfl, by unfold maxLen; omega, fun j p hp => (hkps p (List.mem_of_getElem? hp)).1, fun _ => ⟨_, rfl, b3.lt, fun j p hp => ?_⟩⟩
    match j, hp with
    | 0, hp => cases hp; exact ⟨b3.cell 0, b3.cell 1⟩
    | 1, hp => cases hp; exact ⟨b3.cell 2, b3.cell 3⟩
  have hrs : Rsn ps := by
    subst hps
    unfold Rsn
    refine List.pairwise_cons.2 ⟨fun q hq => ?_, List.pairwise_cons.2 ⟨fun q hq => (by cases hq), List.Pairwise.nil⟩⟩
    simp at hq
    subst hq
    show cmpL [1] [1, 2] < 0
    decide
  have hkl : ∀ p ∈ ps, p.key.length ≤ 300 := fun p hp => by
    subst hps
    simp at hp
    rcases hp with rfl | rfl <;> simp
  have hrel : rel 0 ps = [([1], 5), ([1, 2], 6)] := by subst hps; rfl
  have hT : bTr 1 301 (rel 0 ps) = some alT := by
    unfold bTr
    rw [hrel, if_neg (by simp)]
    rfl
  have H1 := ptree_any (o := 1) (by omega) (some ⟨w.heap.size + 1 + 1, 0, none⟩) 2 2 W0.heap.size ps W0 hprs hkps (Nat.le_refl _) (by omega) hrs hkl
  have hcn := bTr_ocan 1 hrs 301 (fun p hp => by have := hkl p hp; omega)
  rw [hT] at H1 hcn
  have H1 := Lib.hid H1
  have HCN := Lib.hid hcn
  have hkv : ps.map kvP = [([1], 5), ([1, 2], 6)] := by rw [← rel_zero]; exact hrel
  have HSK := Lib.hid (show stripK [1] ps = [([], 5), ([2], 6)] by subst hps; rfl)
  have HUN := Lib.hid (show (ps.map fun p => ([9] ++ p.key, p.val)) = [([9, 1], 5), ([9, 1, 2], 6)] by subst hps; rfl)
  have HSU := Lib.hid (show (subS [1, 2] ps).map kvP = [([1, 2], 6)] by subst hps; rfl)
  have HRS := Lib.hid hrs
  have HKL := Lib.hid hkl
  obtain ⟨qs2, hqs2⟩ : ∃ qs : List PV, qs.map kvP = stripK [1] ps := ⟨(stripK [1] ps).map fun p => ⟨none, 0, 0, p.1, p.2⟩, by rw [List.map_map]; exact List.map_id' _⟩
  obtain ⟨qs3, hqs3⟩ : ∃ qs : List PV, qs.map kvP = ps.map fun p => ([9] ++ p.key, p.val) := ⟨ps.map fun p => ⟨none, 0, 0, [9] ++ p.key, p.val⟩, by rw [List.map_map]; rfl⟩
  have HQ2 := Lib.hid hqs2
  have HQ3 := Lib.hid hqs3
  have hle : 0 < w.heap.size := htb.lt
  have HTB := Lib.hid (fun V (h : Below w.heap.size w V) => htb.below h hle)
  have HLE := Lib.hid hle
  have B0 := Lib.hid b0
  have HW0 := Lib.hid hW0
  clear htb hps b0 b1 b2 b3 hkps hprs hrs hkl hrel hT hcn hle hW0 hkv hqs2 hqs3
  go_enter Tryz.func7, Tryz.ntmps7
  go_wp2_with fail
  rw [HW0.out]
  (with_reducible refine H1.out.mono ?_)
  rintro e w1 ⟨p1, rfl, t1, k1⟩
  have T1 := Lib.hid t1
  have B1 := Lib.hid (B0.out.trans (k1.mono B0.out.size))
  have hall : oall (fun q => q = 1) (some alT) := ⟨rfl, rfl, trivial, trivial⟩
  have HALL := Lib.hid hall
  obtain ⟨W2, hW2⟩ : ∃ V, w1.alloc (.cells #[.int .u8 1] 5) = V := ⟨_, rfl⟩
  have bw2 : Below w1.heap.size w1 W2 := by rw [← hW2]; exact (Below.refl _ _).alloc (Nat.le_refl _) _
  have y2 : Byt W2 W2.heap.size (some ⟨w1.heap.size, 0, none⟩) 1 [1] := by
    rw [← hW2, World.size_alloc]
    exact byt_one w1 5 (u := 1) rfl
  have H2 : Calls Tryz.prog 12 #[.pointer p1, .slice (some ⟨w1.heap.size, 0, none⟩) 1 1, .int .u64 2, .pointer none] W2 (TwPost (· < W2.heap.size) W2 p1 none [] 0 qs2 (([1] : List UInt8) = [])) :=
    strip_any (m := none) (by decide) (OTre.below (OTow.hereS t1) bw2) (fun i q => q) HCN.out.1 HRS.out (fun p hp => by have := HKL.out p hp; omega) HQ2.out (fun g hg => by cases hg) (fun i hi => by cases hi) y2 (Nat.le_refl _) (by decide) (by decide)
  have H2 := Lib.hid H2
  have B2 := Lib.hid bw2
  clear t1 k1 bw2 y2 H1 hall
  go_wp2_with fail
  try rw [hW2]
  (with_reducible refine H2.out.mono ?_)
  rintro e w3 ⟨p3, T3, j3, rfl, t3, c3, _, _, _, k3, _⟩
  have b13 : Below w1.heap.size w1 w3 := B2.out.trans (k3.bel.mono B2.out.size)
  have T13 := Lib.hid (OTre.here t3)
  have C3 := Lib.hid c3
  have B3 := Lib.hid b13
  obtain ⟨W4, hW4⟩ : ∃ V, w3.alloc (.cells #[.int .u8 9] 5) = V := ⟨_, rfl⟩
  have bw4 : Below w3.heap.size w3 W4 := by rw [← hW4]; exact (Below.refl _ _).alloc (Nat.le_refl _) _
  have y4 : Byt W4 W4.heap.size (some ⟨w3.heap.size, 0, none⟩) 1 [9] := by
    rw [← hW4, World.size_alloc]
    exact byt_one w3 5 (u := 9) rfl
  have b14 : Below w1.heap.size w1 W4 := b13.trans (bw4.mono b13.size)
  have H4 : Calls Tryz.prog 18 #[.pointer p1, .slice (some ⟨w3.heap.size, 0, none⟩) 1 1, .int .u64 2, .pointer none] W4 (TwPost (· < W4.heap.size) W4 p1 none [] 0 qs3 (([9] : List UInt8) = [] ∨ (some alT : Option (Nn × Fo)) = none)) :=
    under_any (m := none) (o1 := 1) (by decide) (OTre.below (OTow.hereS T1.out) b14) (OTow.onB T1.out b14) HALL.out (fun i q => q) HCN.out.1 (fun p hp => by have := HKL.out p hp; omega) HQ3.out HRS.out (fun g hg => by cases hg) (fun i hi => by cases hi) y4 (Nat.le_refl _) (by decide) (by decide) (.inr (.inr (by decide)))
  have H4 := Lib.hid H4
  have B4 := Lib.hid bw4
  have B14 := Lib.hid b14
  clear t3 c3 k3 b13 bw4 y4 b14 H2 hW2
  go_wp2_with fail
  try rw [hW4]
  (with_reducible refine H4.out.mono ?_)
  rintro e w5 ⟨p5, T5, j5, rfl, t5, c5, _, _, _, k5, _⟩
  have b15 : Below w1.heap.size w1 w5 := B14.out.trans (k5.bel.mono B14.out.size)
  have T15 := Lib.hid (OTre.here t5)
  have C5 := Lib.hid c5
  have B35 := Lib.hid (B4.out.trans (k5.bel.mono B4.out.size))
  obtain ⟨W6, hW6⟩ : ∃ V, w5.alloc (.cells #[.int .u8 1, .int .u8 2] 5) = V := ⟨_, rfl⟩
  have bw6 : Below w5.heap.size w5 W6 := by rw [← hW6]; exact (Below.refl _ _).alloc (Nat.le_refl _) _
  have y6 : Byt W6 W6.heap.size (some ⟨w5.heap.size, 0, none⟩) 2 [1, 2] := by
    rw [← hW6, World.size_alloc]
    exact byt_two w5 5 1 2 (x := 1) (y := 2) rfl rfl
  have b16 : Below w1.heap.size w1 W6 := b15.trans (bw6.mono b15.size)
  have H6 : Calls Tryz.prog 10 #[.pointer p1, .slice (some ⟨w5.heap.size, 0, none⟩) 2 2, .int .u64 2, .pointer none] W6 (TwPost (· < W6.heap.size) W6 p1 none [] 0 (subS [1, 2] ps) (topB (some alT) [1, 2] ∨ (some alT : Option (Nn × Fo)) = none)) :=
    sub_any (m := none) (by decide) (OTre.below (OTow.hereS T1.out) b16) (fun i q => q) HCN.out.1 HRS.out (fun p hp => by have := HKL.out p hp; omega) (fun g hg => by cases hg) (fun i hi => by cases hi) y6 (Nat.le_refl _) (by decide) (by decide)
  have H6 := Lib.hid H6
  have B6 := Lib.hid bw6
  have B16 := Lib.hid b16
  clear t5 c5 k5 b15 bw6 y6 b16 H4 hW4
  go_wp2_with fail
  try rw [hW6]
  (with_reducible refine H6.out.mono ?_)
  rintro e w7 ⟨p7, T7, j7, rfl, t7, c7, _, _, _, k7, _⟩
  have B17 := Lib.hid (B16.out.trans (k7.bel.mono B16.out.size))
  have B57 := Lib.hid (B6.out.trans (k7.bel.mono B6.out.size))
  have B07 := Lib.hid (B1.out.trans (B17.out.mono B1.out.size))
  have T17 := Lib.hid (OTre.here t7)
  have C7 := Lib.hid c7
  have hs3 : oshL T3 = [52, 60, 61, 53, 58, 48, 50, 76, 61, 54, 62] := (sh_of C3.out (HQ2.out.trans HSK.out) 3 (by decide) (by decide)).trans sal_strip
  have hs5 : oshL T5 = [52, 60, 48, 57, 48, 49, 61, 53, 58, 48, 50, 76, 61, 54, 62] := (sh_of C5.out (HQ3.out.trans HUN.out) 4 (by decide) (by decide)).trans sal_under
  have hs7 : oshL T7 = [76, 48, 49, 48, 50, 61, 54] := (sh_of C7.out HSU.out 3 (by decide) (by decide)).trans sal_sub
  have o3 : ook T3 := sal_ok C3.out (HQ2.out.trans HSK.out) (by decide) (by decide)
  have o5 : ook T5 := sal_ok C5.out (HQ3.out.trans HUN.out) (by decide) (by decide)
  have o7 : ook T7 := sal_ok C7.out HSU.out (by decide) (by decide)
  have K3 := Lib.hid (fun (V : World) (hV : Below w.heap.size w V) (h : Below w7.heap.size w7 V) => by
    have h1 := shape_any T3 p3 V.heap.size V (OTre.below T13.out (B35.out.trans ((B57.out.trans (h.mono B57.out.size)).mono B35.out.size))) o3 (HTB.out V hV) (Nat.lt_of_lt_of_le HLE.out hV.size) (Nat.le_refl _) (by rw [hs3]; decide)
    rw [hs3] at h1
    exact h1)
  have K5 := Lib.hid (fun (V : World) (hV : Below w.heap.size w V) (h : Below w7.heap.size w7 V) => by
    have h1 := shape_any T5 p5 V.heap.size V (OTre.below T15.out (B57.out.trans (h.mono B57.out.size))) o5 (HTB.out V hV) (Nat.lt_of_lt_of_le HLE.out hV.size) (Nat.le_refl _) (by rw [hs5]; decide)
    rw [hs5] at h1
    exact h1)
  have K7 := Lib.hid (fun (V : World) (hV : Below w.heap.size w V) (h : Below w7.heap.size w7 V) => by
    have h1 := shape_any T7 p7 V.heap.size V (OTre.below T17.out h) o7 (HTB.out V hV) (Nat.lt_of_lt_of_le HLE.out hV.size) (Nat.le_refl _) (by rw [hs7]; decide)
    rw [hs7] at h1
    exact h1)
  have K8 := Lib.hid (fun (V : World) (h : Below w7.heap.size w7 V) => show Calls Tryz.prog 16 #[.pointer p1] V fun e w' => e = .returned (.int .i64 2) ∧ Below V.heap.size V w' from longest_any (OTow.onB T1.out (B17.out.trans (h.mono B17.out.size))) HALL.out (OCan.gd HCN.out.1) (show olng (some alT) ≤ 1000000 by decide))
  have hst3 : ((bstr [52, 60, 61, 53, 58, 48, 50, 76, 61, 54, 62]).toList == [52, 60, 61, 53, 58, 48, 50, 76, 61, 54, 62]) = true := by rw [Lib.toList_data, bstr_toList]; decide
  have hst5 : ((bstr [52, 60, 48, 57, 48, 49, 61, 53, 58, 48, 50, 76, 61, 54, 62]).toList == [52, 60, 48, 57, 48, 49, 61, 53, 58, 48, 50, 76, 61, 54, 62]) = true := by rw [Lib.toList_data, bstr_toList]; decide
  have hst7 : ((bstr [76, 48, 49, 48, 50, 61, 54]).toList == [76, 48, 49, 48, 50, 61, 54]) = true := by rw [Lib.toList_data, bstr_toList]; decide
  have H8 := Lib.hid (K3.out w7 B07.out (Below.refl _ _))
  clear t7 c7 k7 H6 hW6 hs3 hs5 hs7 o3 o5 o7
  go_wp2_with fail
  (with_reducible refine H8.out.mono ?_)
  rintro e w8 ⟨rfl, b8⟩
  have B8 := Lib.hid b8
  have H9 := Lib.hid (K5.out w8 (B07.out.trans (b8.mono B07.out.size)) b8)
  clear b8 H8
  go_wp2_with fail
  (with_reducible refine H9.out.mono ?_)
  rintro e w9 ⟨rfl, b9⟩
  have B9 := Lib.hid (B8.out.trans (b9.mono B8.out.size))
  have H10 := Lib.hid (K7.out w9 (B07.out.trans (B9.out.mono B07.out.size)) B9.out)
  clear b9 H9
  go_wp2_with fail
  (with_reducible refine H10.out.mono ?_)
  rintro e w10 ⟨rfl, b10⟩
  have B10 := Lib.hid (B9.out.trans (b10.mono B9.out.size))
  have H11 := Lib.hid (K8.out w10 B10.out)
  clear b10 H10
  go_wp2_with fail
  (with_reducible refine H11.out.mono ?_)
  rintro e w11 ⟨rfl, b11⟩
  have B11 := Lib.hid (B07.out.trans ((B10.out.trans (b11.mono B10.out.size)).mono B07.out.size))
  clear b11 H11
  go_wp2_with fail
  go_ret
  exact ⟨rfl, B11.out⟩
/-- Pairs with bytes ahead of their keys. -/
def undS (key : List UInt8) (ps : List PV) : List PV := ps.map fun p => ⟨none, 0, 0, key ++ p.key, p.val⟩
theorem undS_kv (key : List UInt8) (ps : List PV) : (undS key ps).map kvP = ps.map fun p => (key ++ p.key, p.val) := by
  unfold undS
  rw [List.map_map]
  rfl
theorem undS_rise {key : List UInt8} {ps : List PV} (h : Rsn ps) : Rsn (undS key ps) := by
  unfold Rsn undS
  rw [List.pairwise_map]
  exact List.Pairwise.imp (fun {a b} hab => (lt_app key).2 hab) h
theorem strip_und (key : List UInt8) (ps : List PV) : ps.map kvP = stripK key (undS key ps) := by
  unfold stripK subS
  rw [List.filter_eq_self.2 (fun q hq => by
    obtain ⟨p, _, rfl⟩ := List.mem_map.1 hq
    exact begB_iff.2 (List.prefix_append _ _))]
  unfold undS
  rw [List.map_map]
  refine List.map_congr_left fun p _ => ?_
  show (p.key, p.val) = ((key ++ p.key).drop key.length, p.val)
  rw [List.drop_left]
theorem OCan.kv {qs qs' : List PV} {T : Option (Nn × Fo)} (h : OCan qs T) (he : qs'.map kvP = qs.map kvP) : OCan qs' T := by
  cases T with
  | none =>
    obtain rfl : qs = [] := h
    show qs' = []
    simpa using he
  | some T =>
    have h : Can qs T := h
    exact ⟨h.top, h.wf, h.good, h.list.trans he.symm⟩
theorem und_mem {key : List UInt8} {ps qs : List PV} (h : qs.map kvP = ps.map fun p => (key ++ p.key, p.val)) : ∀ q ∈ qs, ∃ p ∈ ps, q.key = key ++ p.key ∧ q.val = p.val := fun q hq => by
  have h1 : kvP q ∈ qs.map kvP := List.mem_map.2 ⟨q, hq, rfl⟩
  rw [h] at h1
  obtain ⟨p, hp, e⟩ := List.mem_map.1 h1
  injection e with e1 e2
  exact ⟨p, hp, e1.symm, e2.symm⟩
end Go.Proofs.YtajpipaooaemdaaGreatDoor
