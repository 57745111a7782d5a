import Derived.Test.YtcbgieoiefbeiaaGreatDoorDelF
import Derived.Test.YtcbgieoiefbeiaaGreatDoorDelL
import Derived.Test.YtcbgieoiefbeiaaGreatDoorDelW
import Derived.Test.YtcbgieoiefbeiaaGreatDoorDelP
namespace Go.Proofs.YtcbgieoiefbeiaaGreatDoor
open Go.RowKit Go.Shelf
attribute [local go_sem] Oper.semAt_some
set_option maxRecDepth 100000 in
theorem info_kid : (Tryz.prog.info? 70).map (fun i => (i.zero, i.size, i.bytes)) = some (some (.agg #[.int .u8 0, .pointer none]), 2, 16) := by kernel_rfl
theorem kid_one (e : Ent) : ∀ u ∈ kdc e, u.oneCell' = true := by intro u hu; simp at hu; rcases hu with rfl | rfl <;> rfl
theorem kdc_cells {w : World} {g : Nat} {e : Ent} {z : Int} (hz : z = (e.1.toNat : Int)) (h : Blk w g #[.int .u8 z, .pointer e.2]) : ∀ (j : Nat) (u : Value), (kdc e)[j]? = some u -> w.cell? ((⟨g, 0, none⟩ : Addr).add j) = some u := fun j u hj => by
 subst hz
 match j, hj with
 | 0, hj => cases hj; exact h.cell 0
 | 1, hj => cases hj; exact h.cell 1
theorem own_kept {w w' : World} {base k n : Nat} {e : TypeId} {v : Value} {xs : List Value} {N : Nat -> Prop} (h : w.ownsRow base e k v n xs) (hk : Kept N w w') (hN : ∀ g, v.ownBlock = some g -> ¬ N g) : w'.ownsRow base e k v n xs := by
 have hl := h.lt
 refine ⟨h.1, ?_⟩
 rcases h.2 with q | ⟨g, cap, cur, rfl, h1, h2, h3⟩
 ·exact .inl q
 ·exact .inr ⟨g, cap, cur, rfl, h1, (hk.block g (hl g rfl).2 (hN g rfl)).trans h2, h3⟩
theorem getE_none {ek : List Ent} {c : Nat} (h : look ek c = none) : getE ek c = none := by unfold getE; rw [h]; rfl
theorem getE_some {ek : List Ent} {c : Nat} {t : Th} (h : look ek c = some t) : getE ek c = t := by unfold getE; rw [h]; rfl
def anyD (drop : List UInt8) (c : UInt8) (k : Nat) : Bool := (drop.take k).any fun d => decide (d = c)
theorem anyD_succ {drop : List UInt8} {c d : UInt8} {k : Nat} (h : drop[k]? = some d) : anyD drop c (k + 1) = (anyD drop c k || decide (d = c)) := by
 unfold anyD
 rw [List.take_add_one, h]
 simp
def keepB (drop : List UInt8) (c : UInt8) : Bool := !(anyD drop c drop.length)
structure KdS (w wr : World) (ek : List Ent) (P : UInt8 -> Bool) (b : Nat) (vl vb : Value) (m : Nat) : Prop where
 len : (lowE ek P b).length = m
 row : MineR wr w.heap.size 70 2 vl m ((lowE ek P b).map kdc)
 byt : Mine wr w.heap.size 5 vb m ((lowE ek P b).map Prod.fst)
 apart : ∀ g, vl.ownBlock = some g -> vb.ownBlock ≠ some g
 below : Below w.heap.size w wr
section
variable {w wr : World} {ek : List Ent} {P : UInt8 -> Bool} {b m : Nat} {vl vb : Value}
theorem KdS.still {w' : World} (h : KdS w wr ek P b vl vb m) (hs : Still wr w') : KdS w w' ek P b vl vb m := by
 obtain ⟨k, rfl⟩ := hs
 exact ⟨h.len, h.row.drewN k, h.byt.drewN k, h.apart, h.below.trans (Still.below ⟨k, rfl⟩ _)⟩
theorem KdS.skip (h : KdS w wr ek P b vl vb m) (hu : Up ek) {c : UInt8} (hc : c.toNat = b) (hn : look ek b = none \/ P c = false) : KdS w wr ek P (b + 1) vl vb m := by
 have h1 := lowE_next (P := P) (c := c) hu
 rw [hc] at h1
 have h2 : lowE ek P (b + 1) = lowE ek P b := by
  rw [h1]
  rcases hn with q | q
  ·rw [q]
   simp
  ·rcases look ek b with _ | t
   ·simp
   ·simp [q]
 exact ⟨by rw [h2]; exact h.len, by rw [h2]; exact h.row, by rw [h2]; exact h.byt, h.apart, h.below⟩
theorem KdS.more (h : KdS w wr ek P b vl vb m) (hu : Up ek) {c : UInt8} {t : Th} (hc : c.toNat = b) (hl : look ek b = some t) (hP : P c = true) {o1 o2 : Obj} {w2 w4 : World} {v2 v4 : Value}
  (h2 : MineR w2 w.heap.size 70 2 v2 (m + 1) ((lowE ek P b).map kdc ++ [kdc (c, t)])) (g2 : (wr.alloc o1).grownBy w2 vl.ownBlock) (q2 : v2.ownBlock = vl.ownBlock \/ v2.ownBlock = some (wr.alloc o1).heap.size)
  (h4 : Mine w4 w.heap.size 5 v4 (m + 1) ((lowE ek P b).map Prod.fst ++ [c])) (g4 : (w2.alloc o2).grownBy w4 vb.ownBlock) (q4 : v4.ownBlock = vb.ownBlock \/ v4.ownBlock = some (w2.alloc o2).heap.size) : KdS w w4 ek P (b + 1) v2 v4 (m + 1) := by
 have h1 := lowE_next (P := P) (c := c) hu
 rw [hc, hl] at h1
 have e1 : lowE ek P (b + 1) = lowE ek P b ++ [(c, t)] := by rw [h1]; simp [hP]
 have hz := h.below.size
 have s1 : (wr.alloc o1).heap.size = wr.heap.size + 1 := World.size_alloc ..
 have s2 := g2.size
 have s3 : (w2.alloc o2).heap.size = w2.heap.size + 1 := World.size_alloc ..
 have hv2 : ∀ g, v2.ownBlock = some g -> vb.ownBlock ≠ some g := fun g hg e => by
  rcases q2 with q | q
  ·exact h.apart g (q.symm.trans hg) e
  ·have hb := h.byt.lt g e
   rw [q] at hg
   injection hg with hg
   omega
 have hb2 : Below w.heap.size w w2 := below_grown (h.below.alloc hz o1) (h.row.alloc o1) g2 (Nat.le_refl _) (by omega)
 have hb4 : Below w.heap.size w w4 := (hb2.alloc hb2.size o2).grown g4 (by have := hb2.size; omega) (fun g hg => (h.byt.lt g hg).1)
 refine ⟨by rw [e1, List.length_append, h.len]; rfl, ?_, by rw [e1, List.map_append]; exact h4, fun g hg e => ?_, hb4⟩
 ·rw [e1, List.map_append]
  have h3 := h2.alloc o2
  exact ⟨own_kept h3.1 (Kept.of_grown g4) (fun g hg e => hv2 g hg e), h3.2⟩
 ·rcases q4 with q | q
  ·exact hv2 g hg (q.symm.trans e)
  ·have := (h2.lt g hg).2
   rw [q] at e
   injection e with e
   omega
end
set_option maxRecDepth 100000 in
set_option maxHeartbeats 4000000 in
theorem lkids_any {p : Option Addr} {ek : List Ent} (hu : Up ek) (hne : ∀ e ∈ ek, e.2 ≠ none) (h256 : ek.length <= 256) (w : World) (hk : ∀ V, Below w.heap.size w V -> ∀ (c : UInt8) (z : Int), z = (c.toNat : Int) -> Calls Tryz.prog 49 #[.pointer p, .int .u8 z] V fun e w' => e = .returned (.pointer (getE ek c.toNat)) /\ Still V w')
  (A' : Option Addr) (n' c' B : Nat) (drop : List UInt8) (hb : Byt w B A' n' drop) (hB : B <= w.heap.size) :
  Calls Tryz.prog 22 #[.pointer p, .slice A' n' c'] w fun e w' => ∃ A1 c1 A2 c2 m, e = .returned (.tuple #[.slice A1 m c1, .slice A2 m c2]) /\ m = (ek.filter fun e => keepB drop e.1).length /\ m <= c1 /\
   MineR w' w.heap.size 70 2 (.slice A1 m c1) m ((ek.filter fun e => keepB drop e.1).map kdc) /\ Mine w' w.heap.size 5 (.slice A2 m c2) m ((ek.filter fun e => keepB drop e.1).map Prod.fst) /\ (∀ g, (Value.slice A1 m c1).ownBlock = some g -> (Value.slice A2 m c2).ownBlock ≠ some g) /\ Below w.heap.size w w' := by
 have HB := Lib.hid (fun (V : World) (h : Below w.heap.size w V) => hb.below (h.mono hB))
 have HD := Lib.hid hb.1
 have hn' : n' <= 9223372036854775807 := by have := hb.2.1; unfold maxLen at this; omega
 have HK := Lib.hid hk
 have HU := Lib.hid (And.intro hu hne)
 have H0 := Lib.hid (show KdS w w ek (keepB drop) 0 (.slice none 0 0) (.slice none 0 0) 0 from ⟨by rw [lowE_zero]; rfl, by rw [lowE_zero]; exact MineR.nil _ _ _ _, by rw [lowE_zero]; exact Mine.nil _ _ _, fun g hg => (by cases hg), Below.refl _ _⟩)
 clear hb hk hu hne
 go_enter Tryz.func22, Tryz.ntmps22
 go_wp2
 go_loopw [6, 7, 13] (fun vl vb i wr => ∃ b m : Nat, b <= 256 /\ i = .int .i64 (b : Int) /\ Hid (KdS w wr ek (keepB drop) b vl vb m)) (fun _ _ i _ => 256 - (intOf i).toNat)
 case atStart => exact ⟨0, 0, by omega, rfl, H0⟩
 case round =>
  obtain ⟨b, m, hb, rfl, HS⟩ := hrel
  clear H0
  obtain ⟨A1, c1, rfl, hc1⟩ := MineR.slice HS.out.row
  obtain ⟨A2, c2, rfl⟩ := HS.out.byt.slice
  by_cases h1 : b < 256
  ·obtain ⟨c, hc⟩ : ∃ c : UInt8, c.toNat = b := ⟨UInt8.ofNat b, by rw [UInt8.toNat_ofNat']; omega⟩
   have ewb : IntKind.u8.wrap (b : Int) = (b : Int) := by unfold IntKind.wrap; simp [IntKind.signed, IntKind.bits]; omega
   have HKC := Lib.hid (HK.out wr HS.out.below c (b : Int) (by rw [hc]))
   rw [hc] at HKC
   have HC := Lib.hid hc
   obtain ⟨kd, hkd⟩ : ∃ q, getE ek b = q := ⟨_, rfl⟩
   rw [hkd] at HKC
   have HKD := Lib.hid hkd
   have hm256 : m <= 256 := by rw [<- HS.out.len]; exact Nat.le_trans (List.length_filter_le _ _) h256
   clear hc hkd
   go_wp2_with fail
   (with_reducible refine HKC.out.mono ?_)
   rintro e w1 ⟨rfl, s1⟩
   have HS1 := Lib.hid (HS.out.still s1)
   clear s1 HKC HS
   have hbn : b < 256 := h1
   clear h1
   have HM := Lib.hid hm256
   clear hm256
   cases kd with
   | none =>
    have HLK := Lib.hid (show look ek b = none from by
     rcases hl : look ek b with _ | t
     ·rfl
     ·obtain ⟨e, he, _, q⟩ := (look_some HU.out.1).1 hl
      have h2 := HKD.out
      rw [getE_some hl] at h2
      exact absurd (q.trans h2) (HU.out.2 e he))
    go_wp2_with fail
    go_loopw [10, 24] (fun g i wq => ∃ (k : Nat) (gv : Bool), k <= n' /\ i = .int .i64 (k : Int) /\ g = .bool gv /\ Hid (gv = (true || anyD drop c k)) /\ Hid (KdS w wq ek (keepB drop) b (.slice A1 m c1) (.slice A2 m c2) m)) (fun _ i _ => n' - (intOf i).toNat)
    case atStart => exact ⟨0, true, Nat.zero_le _, rfl, rfl, Lib.hid (by simp [anyD]), HS1⟩
    case round =>
     obtain ⟨k, gv, hk, rfl, rfl, HG, HS2⟩ := hrel
     clear HS1
     by_cases h1 : k < n'
     ·obtain ⟨ad, d, rfl, hd1, hd2, hd3⟩ := (HB.out _ HS2.out.below).at_ h1
      obtain ⟨zd, hzd⟩ : ∃ z : Int, (d.toNat : Int) = z := ⟨_, rfl⟩
      have ewd : IntKind.i64.wrap zd = zd := by rw [IntKind.wrap_i64]; have := d.toNat_lt; omega
      obtain ⟨eb, heb⟩ : ∃ x, (zd == (b : Int)) = x := ⟨_, rfl⟩
      have HEB := Lib.hid (show eb = decide (d = c) from by
       rw [<- heb]
       by_cases e : d = c
       ·subst e
        rw [decide_eq_true rfl, <- hzd, HC.out]
        simp
       ·rw [decide_eq_false e, beq_eq_false_iff_ne]
        intro q
        exact e (UInt8.toNat_inj.1 (by have := HC.out; omega)))
      have HG1 := Lib.hid (show (gv || eb) = (true || anyD drop c (k + 1)) from by rw [HG.out, anyD_succ hd2, HEB.out, Bool.or_assoc])
      rw [hzd] at hd3
      clear hd1 hd2 hzd
      cases gv with
      | true =>
       clear heb
       go_wp2_with fail
       exact ⟨⟨k + 1, true, by omega, by go_num, rfl, Lib.hid (by have := HG1.out; rwa [Bool.true_or] at this), HS2⟩, by simp [intOf]; omega⟩
      | false =>
       cases eb with
       | true =>
        go_wp2_with fail
        exact ⟨⟨k + 1, true, by omega, by go_num, rfl, Lib.hid (by have := HG1.out; rwa [Bool.false_or] at this), HS2⟩, by simp [intOf]; omega⟩
       | false =>
        go_wp2_with fail
        exact ⟨⟨k + 1, false, by omega, by go_num, rfl, Lib.hid (by have := HG1.out; rwa [Bool.false_or] at this), HS2⟩, by simp [intOf]; omega⟩
     ·have hkn : k = drop.length := by have := HD.out; omega
      have HGF := Lib.hid (show gv = (true || !(keepB drop c)) from by rw [HG.out, hkn]; unfold keepB; rw [Bool.not_not])
      clear hkn HG
      obtain rfl : gv = true := by rw [HGF.out]; rfl
      have HN := Lib.hid (HS2.out.skip HU.out.1 HC.out (.inl HLK.out))
      go_wp2_with fail
      exact ⟨⟨b + 1, m, by omega, by go_num, HN⟩, by simp [intOf]; omega⟩
   | some ka =>
    have HLK := Lib.hid (show look ek b = some (some ka) from by
     rcases hl : look ek b with _ | t
     ·have h2 := HKD.out
      rw [getE_none hl] at h2
      cases h2
     ·have h2 := HKD.out
      rw [getE_some hl] at h2
      rw [h2])
    go_wp2_with fail
    go_loopw [10, 24] (fun g i wq => ∃ (k : Nat) (gv : Bool), k <= n' /\ i = .int .i64 (k : Int) /\ g = .bool gv /\ Hid (gv = (false || anyD drop c k)) /\ Hid (KdS w wq ek (keepB drop) b (.slice A1 m c1) (.slice A2 m c2) m)) (fun _ i _ => n' - (intOf i).toNat)
    case atStart => exact ⟨0, false, Nat.zero_le _, rfl, rfl, Lib.hid (by simp [anyD]), HS1⟩
    case round =>
     obtain ⟨k, gv, hk, rfl, rfl, HG, HS2⟩ := hrel
     clear HS1
     by_cases h1 : k < n'
     ·obtain ⟨ad, d, rfl, hd1, hd2, hd3⟩ := (HB.out _ HS2.out.below).at_ h1
      obtain ⟨zd, hzd⟩ : ∃ z : Int, (d.toNat : Int) = z := ⟨_, rfl⟩
      have ewd : IntKind.i64.wrap zd = zd := by rw [IntKind.wrap_i64]; have := d.toNat_lt; omega
      obtain ⟨eb, heb⟩ : ∃ x, (zd == (b : Int)) = x := ⟨_, rfl⟩
      have HEB := Lib.hid (show eb = decide (d = c) from by
       rw [<- heb]
       by_cases e : d = c
       ·subst e
        rw [decide_eq_true rfl, <- hzd, HC.out]
        simp
       ·rw [decide_eq_false e, beq_eq_false_iff_ne]
        intro q
        exact e (UInt8.toNat_inj.1 (by have := HC.out; omega)))
      have HG1 := Lib.hid (show (gv || eb) = (false || anyD drop c (k + 1)) from by rw [HG.out, anyD_succ hd2, HEB.out, Bool.or_assoc])
      rw [hzd] at hd3
      clear hd1 hd2 hzd
      cases gv with
      | true =>
       clear heb
       go_wp2_with fail
       exact ⟨⟨k + 1, true, by omega, by go_num, rfl, Lib.hid (by have := HG1.out; rwa [Bool.true_or] at this), HS2⟩, by simp [intOf]; omega⟩
      | false =>
       cases eb with
       | true =>
        go_wp2_with fail
        exact ⟨⟨k + 1, true, by omega, by go_num, rfl, Lib.hid (by have := HG1.out; rwa [Bool.false_or] at this), HS2⟩, by simp [intOf]; omega⟩
       | false =>
        go_wp2_with fail
        exact ⟨⟨k + 1, false, by omega, by go_num, rfl, Lib.hid (by have := HG1.out; rwa [Bool.false_or] at this), HS2⟩, by simp [intOf]; omega⟩
     ·have hkn : k = drop.length := by have := HD.out; omega
      have HGF := Lib.hid (show gv = (false || !(keepB drop c)) from by rw [HG.out, hkn]; unfold keepB; rw [Bool.not_not])
      clear hkn HG
      cases gv with
      | true =>
       have HN := Lib.hid (HS2.out.skip HU.out.1 HC.out (.inr (by have := HGF.out; rw [Bool.false_or] at this; simpa using this.symm)))
       go_wp2_with fail
       exact ⟨⟨b + 1, m, by omega, by go_num, HN⟩, by simp [intOf]; omega⟩
      | false =>
       have HP := Lib.hid (show keepB drop c = true from by have := HGF.out; rw [Bool.false_or] at this; simpa using this.symm)
       have HX := Lib.hid (fun (o1 : Obj) => MineR.alloc HS2.out.row o1)
       have hsz := HS2.out.below.size
       have HY := Lib.hid (fun (V : World) => show ∀ (j : Nat) (u : Value), (kdc (c, some ka))[j]? = some u -> (V.alloc (.cells #[.int .u8 (b : Int), .pointer (some ka)] 70)).cell? ((⟨V.heap.size, 0, none⟩ : Addr).add j) = some u from kdc_cells (e := (c, some ka)) (by rw [HC.out]) (Blk.new V 70 #[.int .u8 (b : Int), .pointer (some ka)]))
       have HZ := Lib.hid (show (b : Int) = (c.toNat : Int) from by rw [HC.out])
       go_wp2_with (first
        | (at_builtin
           refine wpList_append_rws (wr.alloc (.cells #[.int .u8 (b : Int), .pointer (some ka)] 70)) rfl (.tmp 38) (.tmp 43) _ rfl Tryz.underlying63 info_kid (by rfl) (by decide) w.heap.size (.slice A1 m c1) m ((lowE ek (keepB drop) b).map kdc) rfl (HX.out _) ⟨wr.heap.size, 0, none⟩ 1 (kdc (c, some ka)) rfl rfl (HY.out wr) (kid_one _) (by have := HM.out; omega) (by have := HM.out; unfold maxLen; omega) (by simp; omega) ?_
           intro v2 w2 hm2 hg2 hq2
           have MB := Lib.hid (show Mine (w2.alloc (.cells #[.int .u8 (b : Int)] 5)) w.heap.size 5 (.slice A2 m c2) m ((lowE ek (keepB drop) b).map Prod.fst) from
            Mine.alloc (own_kept (Mine.alloc HS2.out.byt _) (Kept.of_grown hg2) (fun g hg e => HS2.out.apart g e hg)) _)
           have hs2 := hg2.size
           rw [World.size_alloc] at hs2
           have M2 := Lib.hid (And.intro hm2 (And.intro hg2 hq2))
           clear hm2 hg2 hq2)
        | (at_builtin
           refine wpList_append_byt (w2.alloc (.cells #[.int .u8 (b : Int)] 5)) rfl (.tmp 45) (.tmp 48) _ rfl Tryz.underlying23 info_u8 w.heap.size (.slice A2 m c2) m ((lowE ek (keepB drop) b).map Prod.fst) rfl MB.out (w2.heap.size + 1) (some ⟨w2.heap.size, 0, none⟩) 1 1 [c] rfl (byt_one w2 _ HZ.out) (by have := HM.out; omega) (by simp; omega) ?_
           intro v4 w4 hm4 hg4 hq4
           have HN := Lib.hid (HS2.out.more HU.out.1 HC.out HLK.out HP.out M2.out.1 M2.out.2.1 M2.out.2.2 hm4 hg4 hq4)
           clear hm4 hg4 hq4))
       go_wp2
       exact ⟨⟨b + 1, m + 1, by omega, by go_num, HN⟩, by simp [intOf]; omega⟩
  ·obtain rfl : b = 256 := by omega
   have hall := lowE_all ek (keepB drop)
   have HF := Lib.hid (show m = (ek.filter fun e => keepB drop e.1).length /\ MineR wr w.heap.size 70 2 (.slice A1 m c1) m ((ek.filter fun e => keepB drop e.1).map kdc) /\ Mine wr w.heap.size 5 (.slice A2 m c2) m ((ek.filter fun e => keepB drop e.1).map Prod.fst) from by
    have h2 := HS.out.row
    have h3 := HS.out.byt
    have h4 := HS.out.len
    rw [hall] at h2 h3 h4
    exact ⟨h4.symm, h2, h3⟩)
   have HAP := Lib.hid (And.intro HS.out.apart HS.out.below)
   clear hall HS
   go_wp2
   go_ret2
   exact ⟨A1, c1, A2, c2, m, rfl, HF.out.1, hc1, HF.out.2.1, HF.out.2.2, HAP.out.1, HAP.out.2⟩
end Go.Proofs.YtcbgieoiefbeiaaGreatDoor
namespace Go.Proofs.YtcbgieoiefbeiaaGreatDoor
open Go.RowKit Go.Shelf
attribute [local go_sem] Oper.semAt_some
def leftT (v : Option PV) (part : List UInt8) (P : UInt8 -> Bool) (ps : List PV) (k : Nat) : List PV := leftS v part P (ps.take k)
theorem leftT_succ {v : Option PV} {part : List UInt8} {P : UInt8 -> Bool} {ps : List PV} {k : Nat} {p : PV} (h : ps[k]? = some p) : leftT v part P ps (k + 1) = if behB part P p.key = true then leftT v part P ps k ++ [p] else leftT v part P ps k := by
 unfold leftT leftS
 rw [List.take_add_one, h]
 simp only [Option.toList_some, List.filter_append, List.append_assoc]
 cases hb : behB part P p.key <;> simp [hb]
theorem leftT_len (v : Option PV) (part : List UInt8) (P : UInt8 -> Bool) (ps : List PV) (k : Nat) : (leftT v part P ps k).length <= k + 1 := by
 unfold leftT leftS
 rw [List.length_append]
 have h1 : v.toList.length <= 1 := by cases v <;> simp
 have h2 := List.length_filter_le (fun p : PV => behB part P p.key) (ps.take k)
 have h3 : (ps.take k).length <= k := by rw [List.length_take]; exact Nat.min_le_left _ _
 omega
def LfR (W wr : World) (v : Option PV) (part : List UInt8) (P : UInt8 -> Bool) (ps : List PV) (k m : Nat) (vo : Value) : Prop :=
 (leftT v part P ps k).length = m /\ MineR wr W.heap.size 53 2 vo m ((leftT v part P ps k).map pvc) /\ Below W.heap.size W wr
theorem LfR.still {W wr w' : World} {v : Option PV} {part : List UInt8} {P : UInt8 -> Bool} {ps : List PV} {k m : Nat} {vo : Value} (h : LfR W wr v part P ps k m vo) (hs : Still wr w') : LfR W w' v part P ps k m vo := by
 obtain ⟨q, rfl⟩ := hs
 exact ⟨h.1, h.2.1.drewN q, h.2.2.trans (Still.below ⟨q, rfl⟩ _)⟩
set_option maxRecDepth 100000 in
set_option maxHeartbeats 4000000 in
theorem rleft_any (A : Option Addr) (n c B : Nat) (ps : List PV) (w : World) (ha : Prs w B A n ps) (hk : Kps w B ps) (hB : B <= w.heap.size) (hn : n <= 300) (hnc : n <= c) (hr : Rsn ps) (hl : ∀ p ∈ ps, p.key.length <= 300) {T : Nn × Fo} (hT : bTr 1 301 (rel 0 ps) = some T)
  (has : Bool) (val : Int) (A' : Option Addr) (n' c' : Nat) (l' : List UInt8) (hb : Byt w B A' n' l') :
  Calls Tryz.prog 24 #[.slice A n c, .bool has, .int .u64 val, .slice A' n' c'] w fun e w' => ∃ (A2 : Option Addr) (n2 c2 : Nat) (v : Option PV), e = .returned (.slice A2 n2 c2) /\ n2 <= c2 /\ has = v.isSome /\ (∀ x, v = some x -> x.key = T.1.part /\ x.val = val) /\ Prs w' w'.heap.size A2 n2 (leftS v T.1.part (fun c => anyD l' c l'.length) ps) /\ Kps w' w'.heap.size (leftS v T.1.part (fun c => anyD l' c l'.length) ps) /\ Below w.heap.size w w' := by
 have HA := Lib.hid (fun (V : World) (h : Below w.heap.size w V) => (ha.more hB).below h)
 have HK := Lib.hid (fun (V : World) (h : Below w.heap.size w V) => ((hk.more hB).below h).more h.size)
 have HB := Lib.hid (fun (V : World) (h : Below w.heap.size w V) => (hb.more hB).below h)
 have HN := Lib.hid ha.1
 have HD := Lib.hid hb.1
 have hn'9 : n' <= 9223372036854775807 := by have := hb.2.1; unfold maxLen at this; omega
 have H1 := rBuild_any 301 n c B A ps w ha hk hB (by omega) hnc (fun p hp => by have := hl p hp; omega) (rsn_rel hr)
 rw [hT] at H1
 have H1 := Lib.hid H1
 have hcn := (bTr_ocan 1 hr 301 (fun p hp => by have := hl p hp; omega)).1
 rw [hT] at hcn
 have HBG := Lib.hid (show ∀ p ∈ ps, T.1.part <+: p.key from fun p hp => by
  have h1 := tlist_begs (x := T.1) (k := T.2) (kvP p) (by rw [Can.list hcn]; exact List.mem_map.2 ⟨p, hp, rfl⟩)
  exact h1)
 have HL := Lib.hid hl
 clear ha hk hb hr hl hT hcn
 go_enter Tryz.func24, Tryz.ntmps24
 go_wp2_with fail
 (with_reducible refine H1.out.mono ?_)
 rintro e w1 ⟨cs, rfl, hcs, b1⟩
 obtain ⟨d, ek, rfl, hdat, _⟩ := hcs
 have HPB := Lib.hid (show Byt w1 w1.heap.size d.A d.n T.1.part from hdat.part)
 have hpr : d.n <= d.c := hdat.pr
 have hpn : d.n <= 9223372036854775807 := by have := hdat.part.2.1; unfold maxLen at this; omega
 have B1 := Lib.hid b1
 clear hdat b1 H1
 unfold Dv.cells
 obtain ⟨W1, hW1⟩ : ∃ V, w1.alloc (.cells #[.int .i64 (kdV T.1 T.2), .slice d.A d.n d.c, .bool T.1.has, .int .u64 T.1.val, .slice d.Ab d.nb d.cb, .slice d.Ak d.nk d.ck] 84) = V := ⟨_, rfl⟩
 have hb1 : Below w1.heap.size w1 W1 := by rw [<- hW1]; exact (Below.refl _ _).alloc (Nat.le_refl _) _
 have BX : Blk W1 w1.heap.size #[.int .i64 (kdV T.1 T.2), .slice d.A d.n d.c, .bool T.1.has, .int .u64 T.1.val, .slice d.Ab d.nb d.cb, .slice d.Ak d.nk d.ck] := by rw [<- hW1]; exact Blk.new w1 _ _
 have hbw : Below w.heap.size w W1 := B1.out.trans (hb1.mono B1.out.size)
 have HBX := Lib.hid (fun (V : World) (h : Below W1.heap.size W1 V) => show V.cell? ⟨w1.heap.size, 1, none⟩ = some (.slice d.A d.n d.c) from (BX.below h BX.lt).cell 1)
 have HBW := Lib.hid (fun (V : World) (h : Below W1.heap.size W1 V) => show Below w.heap.size w V from hbw.trans (h.mono hbw.size))
 have HPV := Lib.hid (fun (V : World) (h : Below W1.heap.size W1 V) => show Byt V V.heap.size d.A d.n T.1.part from (HPB.out.below (hb1.trans (h.mono hb1.size))).more (Nat.le_trans hb1.size h.size))
 have k1 := HBX.out W1 (Below.refl _ _)
 have HS1 := Lib.hid (show w1.heap.size < W1.heap.size from BX.lt)
 clear BX hbw hb1
 cases has with
 | true =>
  have HY0 := Lib.hid (show ∀ (j : Nat) (u : Value), (pvc ⟨d.A, d.n, d.c, T.1.part, val⟩)[j]? = some u -> (W1.alloc (.cells #[.slice d.A d.n d.c, .int .u64 val] 53)).cell? ((⟨W1.heap.size, 0, none⟩ : Addr).add j) = some u from pair_cells (p := ⟨d.A, d.n, d.c, T.1.part, val⟩) (Blk.new W1 53 #[.slice d.A d.n d.c, .int .u64 val]))
  go_wp2_with (at_builtin
               refine wpList_append_rws (W1.alloc (.cells #[.slice d.A d.n d.c, .int .u64 val] 53)) rfl (.tmp 18) (.tmp 23) _ rfl Tryz.underlying22 info_kpair (by rfl) (by decide) W1.heap.size (.slice none 0 0) 0 [] rfl (MineR.nil _ _ _ _) ⟨W1.heap.size, 0, none⟩ 1 (pvc ⟨d.A, d.n, d.c, T.1.part, val⟩) rfl rfl HY0.out (pair_one _) (by omega) (by unfold maxLen; omega) (by simp) ?_
               intro v2 w2 hm2 hg2 _
               have HS0 := Lib.hid (show LfR W1 w2 (some (⟨d.A, d.n, d.c, T.1.part, val⟩ : PV)) T.1.part (fun c => anyD l' c l'.length) ps 0 1 v2 from ⟨rfl, hm2, ((Below.refl W1.heap.size W1).alloc (Nat.le_refl _) _).grown hg2 (by simp) (fun g hg => by cases hg)⟩)
               clear hm2 hg2)
  clear hW1
  clear k1
  go_loopw [10, 11] (fun vo i wr => ∃ k m : Nat, k <= n /\ i = .int .i64 (k : Int) /\ Hid (LfR W1 wr (some (⟨d.A, d.n, d.c, T.1.part, val⟩ : PV)) T.1.part (fun c => anyD l' c l'.length) ps k m vo)) (fun _ i _ => n - (intOf i).toNat)
  case atStart => exact ⟨0, _, Nat.zero_le _, rfl, HS0⟩
  case round =>
   obtain ⟨k, m, hk, rfl, HS⟩ := hrel
   clear HS0
   obtain ⟨A1, cp1, rfl, hc1⟩ := MineR.slice HS.out.2.1
   by_cases h1 : k < n
   ·have hbw := HBW.out wr HS.out.2.2
    obtain ⟨ad, p, rfl, hlt, e1, c1, c2, b1⟩ := (HA.out _ hbw).at_ h1
    have hpg := HBG.out p (List.mem_of_getElem? e1)
    have hkl : p.key.length = p.n := b1.1
    have hpn9 : p.n <= 9223372036854775807 := by have := b1.2.1; unfold maxLen at this; omega
    have hdl : T.1.part.length = d.n := HPB.out.1
    have HTS := Lib.hid (leftT_succ (v := (some (⟨d.A, d.n, d.c, T.1.part, val⟩ : PV))) (part := T.1.part) (P := fun c => anyD l' c l'.length) e1)
    have k9 := HBX.out wr HS.out.2.2
    have HEL := Lib.hid (fun (V : World) (hV : Below W1.heap.size W1 V) => show (V.cell? (ad.add (k * 2)) = some (.slice p.A p.n p.c) /\ V.cell? ⟨(ad.add (k * 2)).block, (ad.add (k * 2)).off + 1, none⟩ = some (.int .u64 p.val)) /\ Byt V w.heap.size p.A p.n p.key from by
     obtain ⟨ad', p', e, _, e1', c1', c2', b1'⟩ := (HA.out _ (HBW.out V hV)).at_ h1
     injection e with e
     subst e
     rw [e1] at e1'
     injection e1' with e1'
     subst e1'
     rw [<- add_of_add] at c2'
     exact ⟨⟨c1', c2'⟩, b1'⟩)
    obtain ⟨s, hs⟩ := hpg
    by_cases hz : p.n = d.n
    ·have hs0 : s = [] := by
      have h2 := congrArg List.length hs
      rw [List.length_append] at h2
      exact List.eq_nil_of_length_eq_zero (by omega)
     have hbf : behB T.1.part (fun c => anyD l' c l'.length) p.key = false := by
      rw [<- hs, hs0]
      unfold behB
      rw [List.append_nil, List.drop_length]
     have HN := Lib.hid (show LfR W1 wr (some (⟨d.A, d.n, d.c, T.1.part, val⟩ : PV)) T.1.part (fun c => anyD l' c l'.length) ps (k + 1) m (.slice A1 m cp1) from by
      have h2 := HTS.out
      rw [hbf] at h2
      have h3 := HS.out
      unfold LfR at h3 ⊢
      rw [h2]
      simpa using h3)
     have hze : ((p.n : Int) == (d.n : Int)) = true := by rw [hz]; simp
     clear e1 c2 b1 hs hs0 hbf hkl hdl hbw hlt
     go_wp2_with fail
     exact ⟨⟨k + 1, m, by omega, by go_num, HN⟩, by simp [intOf]; omega⟩
    ·obtain ⟨cc, s', rfl⟩ : ∃ cc s', s = cc :: s' := by
      cases s with
      | nil => exact absurd (by rw [List.append_nil] at hs; rw [<- hkl, <- hs, hdl]) hz
      | cons a b => exact ⟨a, b, rfl⟩
     have hlt9 : d.n < p.n := by
      have h2 := congrArg List.length hs
      rw [List.length_append, List.length_cons] at h2
      omega
     have hkc : p.key[d.n]? = some cc := by rw [<- hs, <- hdl]; simp
     have HBE := Lib.hid (show behB T.1.part (fun c => anyD l' c l'.length) p.key = anyD l' cc l'.length from by
      rw [<- hs]
      unfold behB
      rw [List.drop_left])
     obtain ⟨adk, hadk, _, hck⟩ := b1.2.2 (by omega)
     obtain ⟨zc, hzc⟩ : ∃ z : Int, (cc.toNat : Int) = z := ⟨_, rfl⟩
     have HKX := Lib.hid (fun (V : World) (hV : Below W1.heap.size W1 V) => show V.cell? (adk.add d.n) = some (.int .u8 zc) /\ V.cell? ⟨w1.heap.size, 1, none⟩ = some (.slice d.A d.n d.c) from by
      obtain ⟨adk', e, _, hc'⟩ := (HEL.out V hV).2.2.2 (by omega)
      rw [hadk] at e
      injection e with e
      subst e
      rw [<- hzc]
      exact ⟨hc' d.n cc hkc, HBX.out V hV⟩)
     have hze : ((p.n : Int) == (d.n : Int)) = false := by rw [beq_eq_false_iff_ne]; omega
     have HZC := Lib.hid hzc
     have HP := Lib.hid e1
     have HAK := Lib.hid hadk
     rw [hadk] at c1 HEL
     have i1 : (d.n : Int) < (p.n : Int) := by omega
     have i2 : (0 : Int) <= (d.n : Int) := by omega
     have i3 : ((d.n : Int)).toNat = d.n := by omega
     obtain ⟨pn, hpn⟩ : ∃ q, p.n = q := ⟨_, rfl⟩
     rw [hpn] at c1 HEL hze i1 hpn9
     clear e1 c2 b1 hs hkl hbw hlt hlt9 hkc hck hzc hz hadk hdl
     go_wp2_with fail
     go_loopw [13, 14] (fun s j wq => ∃ (q : Nat) (sv : Bool), q <= n' /\ j = .int .i64 (q : Int) /\ s = .bool sv /\ Hid (sv = anyD l' cc q) /\ Hid (LfR W1 wq (some (⟨d.A, d.n, d.c, T.1.part, val⟩ : PV)) T.1.part (fun c => anyD l' c l'.length) ps k m (.slice A1 m cp1))) (fun _ j _ => n' - (intOf j).toNat)
     case atStart => exact ⟨0, false, Nat.zero_le _, rfl, rfl, Lib.hid (by simp [anyD]), HS⟩
     case round =>
      obtain ⟨q, sv, hq, rfl, rfl, HG, HS2⟩ := hrel
      clear HS c1
      by_cases h2 : q < n'
      ·obtain ⟨adb, bb, rfl, _, hd2, hd3⟩ := (HB.out _ (HBW.out _ HS2.out.2.2)).at_ h2
       obtain ⟨zb, hzb⟩ : ∃ z : Int, (bb.toNat : Int) = z := ⟨_, rfl⟩
       obtain ⟨eb, heb⟩ : ∃ x, (zb == zc) = x := ⟨_, rfl⟩
       have HEB := Lib.hid (show eb = decide (bb = cc) from by
        rw [<- heb]
        by_cases e : bb = cc
        ·subst e
         rw [decide_eq_true rfl, <- hzb, HZC.out]
         simp
        ·rw [decide_eq_false e, beq_eq_false_iff_ne]
         intro z
         exact e (UInt8.toNat_inj.1 (by have := HZC.out; omega)))
       have HG1 := Lib.hid (show (sv || eb) = anyD l' cc (q + 1) from by rw [HG.out, anyD_succ hd2, HEB.out])
       rw [hzb] at hd3
       obtain ⟨k8, k9⟩ := HKX.out _ HS2.out.2.2
       clear hzb hd2 HG
       cases sv with
       | true =>
        clear heb
        go_upto_region 14 with fail
        go_quiet (fail)
        go_wp2_with fail
        exact ⟨⟨q + 1, true, by omega, by go_num, rfl, Lib.hid (by have := HG1.out; rwa [Bool.true_or] at this), Lib.hid (HS2.out.still ⟨_, rfl⟩)⟩, by simp [intOf]; omega⟩
       | false =>
        go_upto_region 14 with fail
        go_quiet (fail)
        go_wp2_with fail
        exact ⟨⟨q + 1, eb, by omega, by go_num, rfl, Lib.hid (by have := HG1.out; rwa [Bool.false_or] at this), Lib.hid (HS2.out.still ⟨_, rfl⟩)⟩, by simp [intOf]; omega⟩
      ·have hql : q = l'.length := by have := HD.out; omega
       have HGF := Lib.hid (show behB T.1.part (fun c => anyD l' c l'.length) p.key = sv from by rw [HBE.out, HG.out, hql])
       obtain ⟨⟨c1, c2⟩, _⟩ := HEL.out _ HS2.out.2.2
       clear hql HG
       cases sv with
       | false =>
        have HN := Lib.hid (show LfR W1 wr (some (⟨d.A, d.n, d.c, T.1.part, val⟩ : PV)) T.1.part (fun c => anyD l' c l'.length) ps (k + 1) m (.slice A1 m cp1) from by
         have h2 := HTS.out
         rw [HGF.out] at h2
         have h3 := HS2.out
         unfold LfR at h3 ⊢
         rw [h2]
         simpa using h3)
        go_wp2_with fail
        exact ⟨⟨k + 1, m, by omega, by go_num, HN⟩, by simp [intOf]; omega⟩
       | true =>
        have HX := Lib.hid (fun (o1 : Obj) => MineR.alloc HS2.out.2.1 o1)
        have hsz := HS2.out.2.2.size
        have HM := Lib.hid (show m <= k + 1 from by rw [<- HS2.out.1]; exact leftT_len _ _ _ _ _)
        have HBO := Lib.hid (HS2.out.2.2.alloc hsz (.cells #[.slice (some adk) pn p.c, .int .u64 p.val] 53))
        have HY := Lib.hid (show ∀ (j : Nat) (u : Value), [Value.slice (some adk) pn p.c, .int .u64 p.val][j]? = some u -> (wr.alloc (.cells #[.slice (some adk) pn p.c, .int .u64 p.val] 53)).cell? ((⟨wr.heap.size, 0, none⟩ : Addr).add j) = some u from pair_cells (p := ⟨some adk, pn, p.c, p.key, p.val⟩) (Blk.new wr 53 #[.slice (some adk) pn p.c, .int .u64 p.val]))
        have HPE := Lib.hid (show pvc p = [Value.slice (some adk) pn p.c, .int .u64 p.val] from by
         have h4 := (HEL.out _ HS2.out.2.2).2
         show [Value.slice p.A p.n p.c, .int .u64 p.val] = _
         rw [HAK.out, hpn])
        go_wp2_with (at_builtin
                     refine wpList_append_rws (wr.alloc (.cells #[.slice (some adk) pn p.c, .int .u64 p.val] 53)) rfl (.tmp 63) (.tmp 68) _ rfl Tryz.underlying22 info_kpair (by rfl) (by decide) W1.heap.size (.slice A1 m cp1) m ((leftT (some (⟨d.A, d.n, d.c, T.1.part, val⟩ : PV)) T.1.part (fun c => anyD l' c l'.length) ps k).map pvc) rfl (HX.out _) ⟨wr.heap.size, 0, none⟩ 1 [Value.slice (some adk) pn p.c, .int .u64 p.val] rfl rfl HY.out (by intro u hu; simp at hu; rcases hu with rfl | rfl <;> rfl) (by have := HM.out; omega) (by have := HM.out; unfold maxLen; omega) (by simp; omega) ?_
                     intro v2 w2 hm2 hg2 _
                     have HN := Lib.hid (show LfR W1 w2 (some (⟨d.A, d.n, d.c, T.1.part, val⟩ : PV)) T.1.part (fun c => anyD l' c l'.length) ps (k + 1) (m + 1) v2 from by
                      have h2 := HTS.out
                      rw [HGF.out] at h2
                      unfold LfR
                      rw [h2]
                      refine ⟨by simp only [if_true, List.length_append, HS2.out.1]; rfl, ?_, below_grown HBO.out (HX.out _) hg2 (Nat.le_refl _) (by simp; omega)⟩
                      simp only [if_true, List.map_append, List.map_cons, List.map_nil]
                      rw [HPE.out]
                      exact hm2)
                     clear hm2 hg2)
        go_wp2
        exact ⟨⟨k + 1, m + 1, by omega, by go_num, HN⟩, by simp [intOf]; omega⟩
   ·obtain rfl : k = n := by omega
    have hps : ps.take k = ps := List.take_of_length_le (by rw [HN.out]; exact Nat.le_refl _)
    have hE := HS.out
    unfold LfR leftT at hE
    rw [hps] at hE
    have HKP := Lib.hid (show Kps wr wr.heap.size (leftS (some (⟨d.A, d.n, d.c, T.1.part, val⟩ : PV)) T.1.part (fun c => anyD l' c l'.length) ps) from fun p hp => by
     rcases List.mem_append.1 hp with h | h
     ·obtain rfl : p = ⟨d.A, d.n, d.c, T.1.part, val⟩ := by simpa using h
      exact ⟨HPV.out _ hE.2.2, hpr⟩
     ·exact (HK.out _ (HBW.out _ hE.2.2)) p (List.mem_filter.1 h).1)
    have HP := Lib.hid (PRow.prs hE.2.1 HKP.out)
    have HW9 := Lib.hid (HBW.out _ hE.2.2)
    clear hps hE HS
    go_wp2_with fail
    go_ret
    exact ⟨A1, m, cp1, (some (⟨d.A, d.n, d.c, T.1.part, val⟩ : PV)), rfl, hc1, rfl, (fun x hx => by injection hx with hx; subst hx; exact ⟨rfl, rfl⟩), HP.out, HKP.out, HW9.out⟩
 | false =>
  have HS0 := Lib.hid (show LfR W1 W1 (none : Option PV) T.1.part (fun c => anyD l' c l'.length) ps 0 0 (.slice none 0 0) from ⟨rfl, MineR.nil _ _ _ _, Below.refl _ _⟩)
  go_wp2_with fail
  clear hW1
  clear k1
  go_loopw [10, 11] (fun vo i wr => ∃ k m : Nat, k <= n /\ i = .int .i64 (k : Int) /\ Hid (LfR W1 wr (none : Option PV) T.1.part (fun c => anyD l' c l'.length) ps k m vo)) (fun _ i _ => n - (intOf i).toNat)
  case atStart => exact ⟨0, _, Nat.zero_le _, rfl, HS0⟩
  case round =>
   obtain ⟨k, m, hk, rfl, HS⟩ := hrel
   clear HS0
   obtain ⟨A1, cp1, rfl, hc1⟩ := MineR.slice HS.out.2.1
   by_cases h1 : k < n
   ·have hbw := HBW.out wr HS.out.2.2
    obtain ⟨ad, p, rfl, hlt, e1, c1, c2, b1⟩ := (HA.out _ hbw).at_ h1
    have hpg := HBG.out p (List.mem_of_getElem? e1)
    have hkl : p.key.length = p.n := b1.1
    have hpn9 : p.n <= 9223372036854775807 := by have := b1.2.1; unfold maxLen at this; omega
    have hdl : T.1.part.length = d.n := HPB.out.1
    have HTS := Lib.hid (leftT_succ (v := (none : Option PV)) (part := T.1.part) (P := fun c => anyD l' c l'.length) e1)
    have k9 := HBX.out wr HS.out.2.2
    have HEL := Lib.hid (fun (V : World) (hV : Below W1.heap.size W1 V) => show (V.cell? (ad.add (k * 2)) = some (.slice p.A p.n p.c) /\ V.cell? ⟨(ad.add (k * 2)).block, (ad.add (k * 2)).off + 1, none⟩ = some (.int .u64 p.val)) /\ Byt V w.heap.size p.A p.n p.key from by
     obtain ⟨ad', p', e, _, e1', c1', c2', b1'⟩ := (HA.out _ (HBW.out V hV)).at_ h1
     injection e with e
     subst e
     rw [e1] at e1'
     injection e1' with e1'
     subst e1'
     rw [<- add_of_add] at c2'
     exact ⟨⟨c1', c2'⟩, b1'⟩)
    obtain ⟨s, hs⟩ := hpg
    by_cases hz : p.n = d.n
    ·have hs0 : s = [] := by
      have h2 := congrArg List.length hs
      rw [List.length_append] at h2
      exact List.eq_nil_of_length_eq_zero (by omega)
     have hbf : behB T.1.part (fun c => anyD l' c l'.length) p.key = false := by
      rw [<- hs, hs0]
      unfold behB
      rw [List.append_nil, List.drop_length]
     have HN := Lib.hid (show LfR W1 wr (none : Option PV) T.1.part (fun c => anyD l' c l'.length) ps (k + 1) m (.slice A1 m cp1) from by
      have h2 := HTS.out
      rw [hbf] at h2
      have h3 := HS.out
      unfold LfR at h3 ⊢
      rw [h2]
      simpa using h3)
     have hze : ((p.n : Int) == (d.n : Int)) = true := by rw [hz]; simp
     clear e1 c2 b1 hs hs0 hbf hkl hdl hbw hlt
     go_wp2_with fail
     exact ⟨⟨k + 1, m, by omega, by go_num, HN⟩, by simp [intOf]; omega⟩
    ·obtain ⟨cc, s', rfl⟩ : ∃ cc s', s = cc :: s' := by
      cases s with
      | nil => exact absurd (by rw [List.append_nil] at hs; rw [<- hkl, <- hs, hdl]) hz
      | cons a b => exact ⟨a, b, rfl⟩
     have hlt9 : d.n < p.n := by
      have h2 := congrArg List.length hs
      rw [List.length_append, List.length_cons] at h2
      omega
     have hkc : p.key[d.n]? = some cc := by rw [<- hs, <- hdl]; simp
     have HBE := Lib.hid (show behB T.1.part (fun c => anyD l' c l'.length) p.key = anyD l' cc l'.length from by
      rw [<- hs]
      unfold behB
      rw [List.drop_left])
     obtain ⟨adk, hadk, _, hck⟩ := b1.2.2 (by omega)
     obtain ⟨zc, hzc⟩ : ∃ z : Int, (cc.toNat : Int) = z := ⟨_, rfl⟩
     have HKX := Lib.hid (fun (V : World) (hV : Below W1.heap.size W1 V) => show V.cell? (adk.add d.n) = some (.int .u8 zc) /\ V.cell? ⟨w1.heap.size, 1, none⟩ = some (.slice d.A d.n d.c) from by
      obtain ⟨adk', e, _, hc'⟩ := (HEL.out V hV).2.2.2 (by omega)
      rw [hadk] at e
      injection e with e
      subst e
      rw [<- hzc]
      exact ⟨hc' d.n cc hkc, HBX.out V hV⟩)
     have hze : ((p.n : Int) == (d.n : Int)) = false := by rw [beq_eq_false_iff_ne]; omega
     have HZC := Lib.hid hzc
     have HP := Lib.hid e1
     have HAK := Lib.hid hadk
     rw [hadk] at c1 HEL
     have i1 : (d.n : Int) < (p.n : Int) := by omega
     have i2 : (0 : Int) <= (d.n : Int) := by omega
     have i3 : ((d.n : Int)).toNat = d.n := by omega
     obtain ⟨pn, hpn⟩ : ∃ q, p.n = q := ⟨_, rfl⟩
     rw [hpn] at c1 HEL hze i1 hpn9
     clear e1 c2 b1 hs hkl hbw hlt hlt9 hkc hck hzc hz hadk hdl
     go_wp2_with fail
     go_loopw [13, 14] (fun s j wq => ∃ (q : Nat) (sv : Bool), q <= n' /\ j = .int .i64 (q : Int) /\ s = .bool sv /\ Hid (sv = anyD l' cc q) /\ Hid (LfR W1 wq (none : Option PV) T.1.part (fun c => anyD l' c l'.length) ps k m (.slice A1 m cp1))) (fun _ j _ => n' - (intOf j).toNat)
     case atStart => exact ⟨0, false, Nat.zero_le _, rfl, rfl, Lib.hid (by simp [anyD]), HS⟩
     case round =>
      obtain ⟨q, sv, hq, rfl, rfl, HG, HS2⟩ := hrel
      clear HS c1
      by_cases h2 : q < n'
      ·obtain ⟨adb, bb, rfl, _, hd2, hd3⟩ := (HB.out _ (HBW.out _ HS2.out.2.2)).at_ h2
       obtain ⟨zb, hzb⟩ : ∃ z : Int, (bb.toNat : Int) = z := ⟨_, rfl⟩
       obtain ⟨eb, heb⟩ : ∃ x, (zb == zc) = x := ⟨_, rfl⟩
       have HEB := Lib.hid (show eb = decide (bb = cc) from by
        rw [<- heb]
        by_cases e : bb = cc
        ·subst e
         rw [decide_eq_true rfl, <- hzb, HZC.out]
         simp
        ·rw [decide_eq_false e, beq_eq_false_iff_ne]
         intro z
         exact e (UInt8.toNat_inj.1 (by have := HZC.out; omega)))
       have HG1 := Lib.hid (show (sv || eb) = anyD l' cc (q + 1) from by rw [HG.out, anyD_succ hd2, HEB.out])
       rw [hzb] at hd3
       obtain ⟨k8, k9⟩ := HKX.out _ HS2.out.2.2
       clear hzb hd2 HG
       cases sv with
       | true =>
        clear heb
        go_upto_region 14 with fail
        go_quiet (fail)
        go_wp2_with fail
        exact ⟨⟨q + 1, true, by omega, by go_num, rfl, Lib.hid (by have := HG1.out; rwa [Bool.true_or] at this), Lib.hid (HS2.out.still ⟨_, rfl⟩)⟩, by simp [intOf]; omega⟩
       | false =>
        go_upto_region 14 with fail
        go_quiet (fail)
        go_wp2_with fail
        exact ⟨⟨q + 1, eb, by omega, by go_num, rfl, Lib.hid (by have := HG1.out; rwa [Bool.false_or] at this), Lib.hid (HS2.out.still ⟨_, rfl⟩)⟩, by simp [intOf]; omega⟩
      ·have hql : q = l'.length := by have := HD.out; omega
       have HGF := Lib.hid (show behB T.1.part (fun c => anyD l' c l'.length) p.key = sv from by rw [HBE.out, HG.out, hql])
       obtain ⟨⟨c1, c2⟩, _⟩ := HEL.out _ HS2.out.2.2
       clear hql HG
       cases sv with
       | false =>
        have HN := Lib.hid (show LfR W1 wr (none : Option PV) T.1.part (fun c => anyD l' c l'.length) ps (k + 1) m (.slice A1 m cp1) from by
         have h2 := HTS.out
         rw [HGF.out] at h2
         have h3 := HS2.out
         unfold LfR at h3 ⊢
         rw [h2]
         simpa using h3)
        go_wp2_with fail
        exact ⟨⟨k + 1, m, by omega, by go_num, HN⟩, by simp [intOf]; omega⟩
       | true =>
        have HX := Lib.hid (fun (o1 : Obj) => MineR.alloc HS2.out.2.1 o1)
        have hsz := HS2.out.2.2.size
        have HM := Lib.hid (show m <= k + 1 from by rw [<- HS2.out.1]; exact leftT_len _ _ _ _ _)
        have HBO := Lib.hid (HS2.out.2.2.alloc hsz (.cells #[.slice (some adk) pn p.c, .int .u64 p.val] 53))
        have HY := Lib.hid (show ∀ (j : Nat) (u : Value), [Value.slice (some adk) pn p.c, .int .u64 p.val][j]? = some u -> (wr.alloc (.cells #[.slice (some adk) pn p.c, .int .u64 p.val] 53)).cell? ((⟨wr.heap.size, 0, none⟩ : Addr).add j) = some u from pair_cells (p := ⟨some adk, pn, p.c, p.key, p.val⟩) (Blk.new wr 53 #[.slice (some adk) pn p.c, .int .u64 p.val]))
        have HPE := Lib.hid (show pvc p = [Value.slice (some adk) pn p.c, .int .u64 p.val] from by
         have h4 := (HEL.out _ HS2.out.2.2).2
         show [Value.slice p.A p.n p.c, .int .u64 p.val] = _
         rw [HAK.out, hpn])
        go_wp2_with (at_builtin
                     refine wpList_append_rws (wr.alloc (.cells #[.slice (some adk) pn p.c, .int .u64 p.val] 53)) rfl (.tmp 63) (.tmp 68) _ rfl Tryz.underlying22 info_kpair (by rfl) (by decide) W1.heap.size (.slice A1 m cp1) m ((leftT (none : Option PV) T.1.part (fun c => anyD l' c l'.length) ps k).map pvc) rfl (HX.out _) ⟨wr.heap.size, 0, none⟩ 1 [Value.slice (some adk) pn p.c, .int .u64 p.val] rfl rfl HY.out (by intro u hu; simp at hu; rcases hu with rfl | rfl <;> rfl) (by have := HM.out; omega) (by have := HM.out; unfold maxLen; omega) (by simp; omega) ?_
                     intro v2 w2 hm2 hg2 _
                     have HN := Lib.hid (show LfR W1 w2 (none : Option PV) T.1.part (fun c => anyD l' c l'.length) ps (k + 1) (m + 1) v2 from by
                      have h2 := HTS.out
                      rw [HGF.out] at h2
                      unfold LfR
                      rw [h2]
                      refine ⟨by simp only [if_true, List.length_append, HS2.out.1]; rfl, ?_, below_grown HBO.out (HX.out _) hg2 (Nat.le_refl _) (by simp; omega)⟩
                      simp only [if_true, List.map_append, List.map_cons, List.map_nil]
                      rw [HPE.out]
                      exact hm2)
                     clear hm2 hg2)
        go_wp2
        exact ⟨⟨k + 1, m + 1, by omega, by go_num, HN⟩, by simp [intOf]; omega⟩
   ·obtain rfl : k = n := by omega
    have hps : ps.take k = ps := List.take_of_length_le (by rw [HN.out]; exact Nat.le_refl _)
    have hE := HS.out
    unfold LfR leftT at hE
    rw [hps] at hE
    have HKP := Lib.hid (show Kps wr wr.heap.size (leftS (none : Option PV) T.1.part (fun c => anyD l' c l'.length) ps) from fun p hp => by
     rcases List.mem_append.1 hp with h | h
     ·cases h
     ·exact (HK.out _ (HBW.out _ hE.2.2)) p (List.mem_filter.1 h).1)
    have HP := Lib.hid (PRow.prs hE.2.1 HKP.out)
    have HW9 := Lib.hid (HBW.out _ hE.2.2)
    clear hps hE HS
    go_wp2_with fail
    go_ret
    exact ⟨A1, m, cp1, (none : Option PV), rfl, hc1, rfl, (fun x hx => by cases hx), HP.out, HKP.out, HW9.out⟩
end Go.Proofs.YtcbgieoiefbeiaaGreatDoor
namespace Go.Proofs.YtcbgieoiefbeiaaGreatDoor
open Go.RowKit Go.Shelf
attribute [local go_sem] Oper.semAt_some
theorem kv_same {ps qs : List PV} (hl : ps.length = qs.length) (h : ∀ (j : Nat) (p q : PV), ps[j]? = some p -> qs[j]? = some q -> p.key = q.key /\ p.val = q.val) : ps.map kvP = qs.map kvP := by
 refine List.ext_getElem? fun j => ?_
 rw [List.getElem?_map, List.getElem?_map]
 rcases hp : ps[j]? with _ | p
 ·have : qs[j]? = none := by
   rw [List.getElem?_eq_none_iff] at hp ⊢
   omega
  rw [this]
 ·rcases hq : qs[j]? with _ | q
  ·have : ps[j]? = none := by
    rw [List.getElem?_eq_none_iff] at hq ⊢
    omega
   rw [hp] at this
   cases this
  ·obtain ⟨h1, h2⟩ := h j p q hp hq
   simp [kvP, h1, h2]
theorem kv_differ {ps qs : List PV} {j : Nat} {p q : PV} (hp : ps[j]? = some p) (hq : qs[j]? = some q) (h : p.key ≠ q.key \/ p.val ≠ q.val) : ¬ ps.map kvP = qs.map kvP := fun e => by
 have h1 := congrArg (fun l => l[j]?) e
 simp only [List.getElem?_map, hp, hq, Option.map_some, Option.some.injEq] at h1
 injection h1 with h1 h2
 exact h.elim (fun z => z h1) (fun z => z h2)
set_option maxRecDepth 100000 in
set_option maxHeartbeats 1000000 in
theorem lequal_any (A A2 : Option Addr) (n n2 c c2 B : Nat) (ps qs : List PV) (w : World) (ha : Prs w B A n ps) (hb : Prs w B A2 n2 qs) (hB : B <= w.heap.size) :
  Calls Tryz.prog 25 #[.slice A n c, .slice A2 n2 c2] w fun e w' => ∃ r : Bool, e = .returned (.bool r) /\ (r = true ↔ ps.map kvP = qs.map kvP) /\ Below w.heap.size w w' := by
 have HA := Lib.hid (fun (V : World) (h : Below w.heap.size w V) => (ha.more hB).below h)
 have HB := Lib.hid (fun (V : World) (h : Below w.heap.size w V) => (hb.more hB).below h)
 have HL := Lib.hid (And.intro ha.1 hb.1)
 have hn : n <= 9223372036854775807 := by have := ha.2.1; unfold maxLen at this; omega
 have hn2 : n2 <= 9223372036854775807 := by have := hb.2.1; unfold maxLen at this; omega
 clear ha hb
 go_enter Tryz.func25, Tryz.ntmps25
 by_cases hne : n = n2
 ·subst hne
  have hnn : ((n : Int) != (n : Int)) = false := by simp
  go_wp2_with fail
  clear hnn
  go_loopw [13] (fun i wr => ∃ k : Nat, k <= n /\ i = .int .i64 (k : Int) /\ Hid (∀ (j : Nat) (p q : PV), j < k -> ps[j]? = some p -> qs[j]? = some q -> p.key = q.key /\ p.val = q.val) /\ Hid (Below w.heap.size w wr)) (fun i _ => n - (intOf i).toNat)
  case atStart => exact ⟨0, Nat.zero_le _, rfl, Lib.hid (fun j _ _ hj => by omega), Lib.hid (Below.refl _ _)⟩
  case round =>
   obtain ⟨k, hk, rfl, HS, HW⟩ := hrel
   by_cases h1 : k < n
   ·obtain ⟨ad, p, rfl, hlt, e1, c1, c2', b1⟩ := (HA.out _ HW.out).at_ h1
    obtain ⟨ad2, q, rfl, hlt2, e2, d1, d2, b2⟩ := (HB.out _ HW.out).at_ h1
    rw [<- add_of_add] at c2' d2
    have c3 : wr.cell? ⟨(ad.add (k * 2)).block, (ad.add (k * 2)).off + 1, none⟩ = some (.int .u64 p.val) := c2'
    have d3 : wr.cell? ⟨(ad2.add (k * 2)).block, (ad2.add (k * 2)).off + 1, none⟩ = some (.int .u64 q.val) := d2
    have HE := Lib.hid (And.intro e1 e2)
    have HY1 := Lib.hid b1
    have HY2 := Lib.hid b2
    clear c2' d2 e1 e2 b1 b2 hlt hlt2
    by_cases hv : p.val = q.val
    ·obtain ⟨sb, hsb⟩ : ∃ b, sameB p.key q.key = b := ⟨_, rfl⟩
     have HSM := Lib.hid (fun (j : Nat) => rsame_any p.A q.A p.n q.n p.c q.c w.heap.size p.key q.key (wr.drewN j) (HY1.out.drewN j) (HY2.out.drewN j))
     rw [hsb] at HSM
     have HSB := Lib.hid hsb
     have HVV := Lib.hid hv
     rw [<- hv] at d3
     obtain ⟨pv, hpv⟩ : ∃ z, p.val = z := ⟨_, rfl⟩
     rw [hpv] at c3 d3
     clear hsb hv hpv
     go_upto_region 6 with fail
     go_quiet ((go_at_call 27; first | exact quiet_st1 (HSM.out _) | exact quiet_st2 (HSM.out _)))
     cases sb with
     | true =>
      have he : p.key = q.key := of_decide_eq_true HSB.out
      have HS1 := Lib.hid (show ∀ (j : Nat) (p' q' : PV), j < k + 1 -> ps[j]? = some p' -> qs[j]? = some q' -> p'.key = q'.key /\ p'.val = q'.val from fun j p' q' hj hp hq => by
       rcases Nat.lt_or_ge j k with h | h
       ·exact HS.out j p' q' h hp hq
       ·have : j = k := by omega
        subst this
        rw [HE.out.1] at hp
        rw [HE.out.2] at hq
        injection hp with hp
        injection hq with hq
        subst hp
        subst hq
        exact ⟨he, HVV.out⟩)
      clear he
      go_wp2_with fail
      exact ⟨⟨k + 1, by omega, by go_num, HS1, Lib.hid (HW.out.trans (Still.below ⟨_, rfl⟩ _))⟩, by simp [intOf]; omega⟩
     | false =>
      have HNO := Lib.hid (kv_differ HE.out.1 HE.out.2 (.inl (of_decide_eq_false HSB.out)))
      go_wp2_with fail
      go_ret
      exact ⟨false, rfl, ⟨fun q => (by cases q), fun q => absurd q HNO.out⟩, HW.out.trans (Still.below ⟨_, rfl⟩ _)⟩
    ·have HNO := Lib.hid (kv_differ HE.out.1 HE.out.2 (.inr hv))
     obtain ⟨pv, hpv⟩ : ∃ z, p.val = z := ⟨_, rfl⟩
     obtain ⟨qv, hqv⟩ : ∃ z, q.val = z := ⟨_, rfl⟩
     rw [hpv] at c3 hv
     rw [hqv] at d3 hv
     have hvv : (pv != qv) = true := by simpa using hv
     clear hpv hqv
     go_upto_region 6 with fail
     go_quiet (fail)
     go_wp2_with fail
     go_ret
     exact ⟨false, rfl, ⟨fun q => (by cases q), fun q => absurd q HNO.out⟩, HW.out.trans (Still.below ⟨_, rfl⟩ _)⟩
   ·have HY := Lib.hid (kv_same (HL.out.1.trans HL.out.2.symm) (fun j p q hp hq => HS.out j p q (by have := (List.getElem?_eq_some_iff.1 hp).1; have := HL.out.1; omega) hp hq))
    go_wp2_with fail
    go_ret
    exact ⟨true, rfl, ⟨fun _ => HY.out, fun _ => rfl⟩, HW.out⟩
 ·have HNO := Lib.hid (show ¬ ps.map kvP = qs.map kvP from fun e => by
   have h1 := congrArg List.length e
   rw [List.length_map, List.length_map, HL.out.1, HL.out.2] at h1
   exact hne h1)
  have hnn : ((n : Int) != (n2 : Int)) = true := by
   have : ¬ (n : Int) = (n2 : Int) := by omega
   simpa using this
  clear hne
  go_wp2_with fail
  go_ret
  exact ⟨false, rfl, ⟨fun q => (by cases q), fun q => absurd q HNO.out⟩, Below.refl _ _⟩
end Go.Proofs.YtcbgieoiefbeiaaGreatDoor
namespace Go.Proofs.YtcbgieoiefbeiaaGreatDoor
open Go.RowKit
theorem Fo.pick_len {P : UInt8 -> Bool} : ∀ f : Fo, (f.pick P).len <= f.len
 | .nil => Nat.le_refl _
 | .cons b x k r => by
  rw [Fo.pick]
  have := Fo.pick_len (P := P) r
  split
  ·rw [Fo.len, Fo.len]; omega
  ·rw [Fo.len]; omega
theorem Fo.pick_same {P : UInt8 -> Bool} : ∀ {f : Fo}, (f.pick P).len = f.len -> f.pick P = f
 | .nil, _ => rfl
 | .cons b x k r, h => by
  have h1 := Fo.pick_len (P := P) r
  rw [Fo.pick] at h ⊢
  split at h
  ·rename_i hb
   rw [Fo.len, Fo.len] at h
   rw [if_pos hb, Fo.pick_same (by omega)]
  ·rw [Fo.len] at h
   omega
theorem Fo.pick_of {P : UInt8 -> Bool} : ∀ {f : Fo}, f.good -> (∀ q ∈ f.list [], ∃ c t, q.1 = c :: t /\ P c = true) -> f.pick P = f
 | .nil, _, _ => rfl
 | .cons b x k r, ⟨g1, g2, g3⟩, h => by
  obtain ⟨p, hp, _⟩ := Go.Proofs.YtcbgieoiefbeiaaGreatDoor.good_has (x := x) (k := k) ⟨g1, g2⟩
  obtain ⟨c, t, e, hc⟩ := h (b :: p.1, p.2) (mem_fo.2 (.inl ⟨p, hp, rfl⟩))
  injection e with e _
  rw [Fo.pick, if_pos (by rw [e]; exact hc), Fo.pick_of g3 (fun q hq => h q (mem_fo.2 (.inr hq)))]
theorem just_iff {ps : List PV} {T : Nn × Fo} (h : Can ps T) (hr : Rsn ps) (v : Option PV) {has : Bool} {val : Int} (hh : has = v.isSome) (hv : ∀ x, v = some x -> x.key = T.1.part /\ x.val = val) (P : UInt8 -> Bool) {ek : List Ent} (hek : ek.length = T.2.len) {n : Nat} (hn : (T.2.pick P).len = n) :
  jB (T.1.nd ek) has val n = true ↔ (leftS v T.1.part P ps).map kvP = ps.map kvP := by
 have hkey : ∀ q ∈ T.2.list [], ∃ c t, q.1 = c :: t := fun q hq => Fo.heads_nil (f := T.2.by 1) h.wf q (by rw [Fo.by_list]; exact hq)
 have hL := h.list
 have hjb : jB (T.1.nd ek) has val n = true ↔ (T.1.has = has /\ (T.1.has = true -> T.1.val = val) /\ T.2.len = n) := by
  unfold jB
  rw [Bool.and_eq_true, Bool.and_eq_true, Bool.or_eq_true, Bool.not_eq_true', decide_eq_true_eq, decide_eq_true_eq, decide_eq_true_eq]
  show (T.1.has = has /\ (T.1.has = false \/ T.1.val = val) /\ ek.length = n) ↔ _
  rw [hek]
  constructor
  ·rintro ⟨h1, h2, h3⟩
   exact ⟨h1, fun q => h2.elim (fun z => by rw [z] at q; cases q) id, h3⟩
  ·rintro ⟨h1, h2, h3⟩
   refine ⟨h1, ?_, h3⟩
   cases hx : T.1.has with
   | false => exact .inl rfl
   | true => exact .inr (h2 hx)
 rw [hjb]
 constructor
 ·rintro ⟨h1, h2, h3⟩
  have hpk := Fo.pick_same (P := P) (f := T.2) (by rw [hn, h3])
  refine riseK_same (by unfold Rise; rw [List.pairwise_map]; exact leftS_rise hr (fun x hx => (hv x hx).1) (fun p hp => tlist_begs (x := T.1) (k := T.2) (kvP p) (by rw [hL]; exact List.mem_map.2 ⟨p, hp, rfl⟩))) (by unfold Rise; rw [List.pairwise_map]; exact hr) fun p => ?_
  rw [leftS_mem, <- hL]
  constructor
  ·rintro (⟨x, hx, rfl⟩ | ⟨q, _⟩)
   ·obtain ⟨e1, e2⟩ := hv x hx
    have hs : has = true := by rw [hh, hx]; rfl
    refine mem_tlist.2 (.inl ⟨by rw [h1, hs], ?_⟩)
    show (x.key, x.val) = _
    rw [e1, e2, h2 (by rw [h1, hs])]
   ·exact q
  ·intro hp
   rcases mem_tlist.1 hp with ⟨q, rfl⟩ | ⟨q, hq, rfl⟩
   ·rw [h1, hh] at q
    obtain ⟨x, hx⟩ := Option.isSome_iff_exists.1 q
    obtain ⟨e1, e2⟩ := hv x hx
    refine .inl ⟨x, hx, ?_⟩
    show _ = (x.key, x.val)
    rw [e1, e2, h2 (by rw [h1, hh, hx]; rfl)]
   ·refine .inr ⟨hp, ?_⟩
    have hq2 := hq
    rw [<- hpk] at hq2
    obtain ⟨_, c, t, e, hc⟩ := (Fo.pick_mem q).1 hq2
    unfold behB
    rw [List.drop_left, e]
    exact hc
 ·intro e
  have hm : ∀ p, (∃ x, v = some x /\ p = kvP x) \/ (p ∈ ps.map kvP /\ behB T.1.part P p.1 = true) ↔ p ∈ tlist T.1 T.2 [] := fun p => by rw [<- leftS_mem, e, hL]
  have hhas : T.1.has = has := by
   rw [hh]
   cases hvx : v with
   | none =>
    cases hx : T.1.has with
    | false => rfl
    | true =>
     rcases (hm (T.1.part, T.1.val)).2 (mem_tlist.2 (.inl ⟨hx, rfl⟩)) with ⟨x, q, _⟩ | ⟨_, q⟩
     ·rw [hvx] at q; cases q
     ·unfold behB at q
      rw [List.drop_length] at q
      cases q
   | some x =>
    rcases mem_tlist.1 ((hm (kvP x)).1 (.inl ⟨x, hvx, rfl⟩)) with ⟨q, _⟩ | ⟨q, hq, e2⟩
    ·exact q
    ·exfalso
     obtain ⟨c, t, e3⟩ := hkey q hq
     have e4 : x.key = T.1.part ++ q.1 := congrArg Prod.fst e2
     rw [(hv x hvx).1, e3] at e4
     have := congrArg List.length e4
     simp at this
  refine ⟨hhas, fun q => ?_, ?_⟩
  ·rw [hhas, hh] at q
   obtain ⟨x, hx⟩ := Option.isSome_iff_exists.1 q
   rcases mem_tlist.1 ((hm (kvP x)).1 (.inl ⟨x, hx, rfl⟩)) with ⟨_, e2⟩ | ⟨q, hq, e2⟩
   ·have e3 : x.val = T.1.val := congrArg Prod.snd e2
    rw [<- e3, (hv x hx).2]
   ·exfalso
    obtain ⟨c, t, e3⟩ := hkey q hq
    have e4 : x.key = T.1.part ++ q.1 := congrArg Prod.fst e2
    rw [(hv x hx).1, e3] at e4
    have := congrArg List.length e4
    simp at this
  ·rw [<- hn]
   rw [Fo.pick_of (P := P) h.good.2 (fun q hq => ?_)]
   obtain ⟨c, t, e3⟩ := hkey q hq
   refine ⟨c, t, e3, ?_⟩
   rcases (hm (T.1.part ++ q.1, q.2)).2 (mem_tlist.2 (.inr ⟨q, hq, rfl⟩)) with ⟨x, hx, e2⟩ | ⟨_, q2⟩
   ·exfalso
    have e4 : T.1.part ++ q.1 = x.key := congrArg Prod.fst e2
    rw [(hv x hx).1, e3] at e4
    have := congrArg List.length e4
    simp at this
   ·unfold behB at q2
    rw [List.drop_left, e3] at q2
    exact q2
theorem Fo.len_keys : ∀ {f : Fo}, f.good -> f.len <= (f.list []).length
 | .nil, _ => Nat.zero_le _
 | .cons b x k r, ⟨g1, g2, g3⟩ => by
  obtain ⟨p, hp, _⟩ := Go.Proofs.YtcbgieoiefbeiaaGreatDoor.good_has (x := x) (k := k) ⟨g1, g2⟩
  have h1 := Fo.len_keys g3
  have h2 : 0 < (tlist x k []).length := List.length_pos_of_mem hp
  rw [Fo.list_nil_cons, List.length_append, List.length_map, Fo.len]
  omega
theorem keys_leaf {x : Nn} {k : Fo} (h : tgood x k) : (x.leaf = true -> (tlist x k []).length = 1) /\ (x.leaf = false -> 2 <= (tlist x k []).length) := by
 obtain ⟨h1, h2⟩ := h
 have hp : (tlist x k []).length = (if x.has = true then 1 else 0) + (k.list []).length := by
  rw [tlist_part, List.length_append, List.length_map]
  cases x.has <;> rfl
 constructor
 ·intro hl
  unfold okN at h1
  rw [hl] at h1
  obtain ⟨rfl, q⟩ := h1
  rw [hp, q]
  rfl
 ·intro hl
  have h3 := ok_inner h1 hl
  have h4 := Fo.len_keys h2
  rw [hp]
  omega
end Go.Proofs.YtcbgieoiefbeiaaGreatDoor
