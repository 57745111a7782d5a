import Derived.Test.YtcbgieoiefbeiaaGreatDoorDelT
import Derived.Test.YtcbgieoiefbeiaaGreatDoorTree
import Derived.Deep.DeepCutAuto
import Derived.Test.YtcbgieoiefbeiaaGreatDoorEqs
import Derived.Test.YtcbgieoiefbeiaaGreatDoorDelL
import Derived.Test.YtcbgieoiefbeiaaGreatDoorCnLaw
namespace Go.Proofs.YtcbgieoiefbeiaaGreatDoor
open Go.RowKit Go.Shelf
attribute [local go_sem] Oper.semAt_some
abbrev kdc (e : Ent) : List Value := [.int .u8 (e.1.toNat : Int), .pointer e.2]
section
variable {w w' : World} {B n : Nat} {A : Option Addr} {l : List Ent}
theorem Kds.len (h : Rws w B A n 2 (l.map kdc)) : l.length = n := by
 have := h.1
 simpa using this
theorem Kds.at_ (h : Rws w B A n 2 (l.map kdc)) {j : Nat} (hj : j < n) : ∃ (ad : Addr) (e : Ent), A = some ad /\ ad.block < B /\ l[j]? = some e /\ w.cell? (ad.add (j * 2)) = some (.int .u8 (e.1.toNat : Int)) /\ w.cell? ⟨(ad.add (j * 2)).block, (ad.add (j * 2)).off + 1, none⟩ = some (.pointer e.2) := by
 obtain ⟨ad, c, e1, hb, hc, _, hcc⟩ := h.at_ hj
 have hl : j < l.length := by have := Kds.len h; omega
 have hq := List.getElem?_eq_getElem hl
 rw [List.getElem?_map, hq] at hc
 simp only [Option.map_some, Option.some.injEq] at hc
 subst hc
 have h0 := hcc 0 _ rfl
 have h1 := hcc 1 _ rfl
 rw [<- add_of_add] at h1
 exact ⟨ad, l[j], e1, hb, hq, h0, h1⟩
end
set_option maxRecDepth 100000 in
theorem left1_any {p : Option Addr} {kd z : Int} {w : World} (hk : ∀ V, Below w.heap.size w V -> Calls Tryz.prog 39 #[.pointer p] V fun e w' => e = .returned (.int .i64 kd) /\ Still V w') :
  Calls Tryz.prog 51 #[.agg #[.int .u8 z, .pointer p]] w fun e w' => e = .returned (.bool (kd == 0)) /\ Below w.heap.size w w' := by
 obtain ⟨W, hW⟩ : ∃ W, w.alloc (.cells #[.int .u8 z, .pointer p] 70) = W := ⟨_, rfl⟩
 have hb : Below w.heap.size w W := by rw [<- hW]; exact (Below.refl _ _).alloc (Nat.le_refl _) _
 have BX : Blk W w.heap.size #[.int .u8 z, .pointer p] := by rw [<- hW]; exact Blk.new w _ _
 have k1 : W.cell? ⟨w.heap.size, 1, none⟩ = some (.pointer p) := BX.cell 1
 have HK := Lib.hid (hk W hb)
 have HB := Lib.hid hb
 clear hk BX hb
 go_enter Tryz.func51, Tryz.ntmps51
 go_wp2_with fail
 (with_reducible refine HK.out.mono ?_)
 rintro e w1 ⟨rfl, s1⟩
 have HS := Lib.hid (HB.out.trans (s1.below _))
 clear s1 hW
 go_wp2_with fail
 go_ret
 exact ⟨rfl, HS.out⟩
set_option maxRecDepth 100000 in
set_option maxHeartbeats 1000000 in
theorem idxf_any (A : Option Addr) (n c B : Nat) (l : List Ent) (w : World) (ha : Rws w B A n 2 (l.map kdc)) (hB : B <= w.heap.size) (f : Ent -> Bool)
  (hf : ∀ e ∈ l, ∀ V, Below w.heap.size w V -> Calls Tryz.prog 51 #[.agg #[.int .u8 (e.1.toNat : Int), .pointer e.2]] V fun r w' => r = .returned (.bool (f e)) /\ Below V.heap.size V w') :
  Calls Tryz.prog 83 #[.slice A n c, .func (.func 51) #[] #[]] w fun r w' => ∃ z : Int, r = .returned (.int .i64 z) /\ decide (0 <= z) = l.any f /\ Below w.heap.size w w' := by
 have HA := Lib.hid (fun (V : World) (h : Below w.heap.size w V) => ha.below (h.mono hB))
 have HL := Lib.hid (Kds.len ha)
 have hn : n <= 9223372036854775807 := by have := ha.2.1; unfold maxLen at this; omega
 have HF := Lib.hid hf
 have hfn := fun (xs : Array Value) (V : World) => Tryz.call51 xs V
 clear ha hf
 go_enter Tryz.func83, Tryz.ntmps83
 go_wp2
 go_loopw [8] (fun i wr => ∃ k : Nat, k <= n /\ i = .int .i64 (k : Int) /\ Hid (∀ j e, j < k -> l[j]? = some e -> f e = false) /\ Hid (Below w.heap.size w wr)) (fun i _ => n - (intOf i).toNat)
 case atStart => exact ⟨0, Nat.zero_le _, rfl, Lib.hid (fun j e hj => by omega), Lib.hid (Below.refl _ _)⟩
 case round =>
  obtain ⟨k, hk, rfl, HS, HB⟩ := hrel
  by_cases h1 : k < n
  ·obtain ⟨ad, e, rfl, hlt, e1, c1, c2⟩ := Kds.at_ (HA.out _ HB.out) h1
   have HC := Lib.hid (HF.out e (List.mem_of_getElem? e1) wr HB.out)
   have HE := Lib.hid e1
   obtain ⟨bz, hbz⟩ : ∃ z : Int, (e.1.toNat : Int) = z := ⟨_, rfl⟩
   obtain ⟨pt, hpt⟩ : ∃ q, e.2 = q := ⟨_, rfl⟩
   obtain ⟨fb, hfb⟩ : ∃ b, f e = b := ⟨_, rfl⟩
   rw [hbz, hpt, hfb] at HC
   rw [hbz] at c1
   rw [hpt] at c2
   have HFB := Lib.hid hfb
   clear e1 hbz hpt hfb
   go_wp2_with fail
   (with_reducible refine HC.out.mono ?_)
   rintro r w1 ⟨rfl, b1⟩
   have HB1 := Lib.hid (HB.out.trans (b1.mono HB.out.size))
   clear b1 HC
   cases fb with
   | true =>
    go_wp2_with fail
    go_ret
    exact ⟨k, rfl, by rw [decide_eq_true (by omega)]; exact (List.any_eq_true.2 ⟨e, List.mem_of_getElem? HE.out, HFB.out⟩).symm, HB1.out⟩
   | false =>
    have HS1 := Lib.hid (show ∀ j e', j < k + 1 -> l[j]? = some e' -> f e' = false from fun j e' hj he => by
     rcases Nat.lt_or_ge j k with h | h
     ·exact HS.out j e' h he
     ·have : j = k := by omega
      subst this
      rw [HE.out] at he
      injection he with he
      subst he
      exact HFB.out)
    go_wp2_with fail
    exact ⟨⟨k + 1, by omega, by go_num, HS1, HB1⟩, by simp [intOf]; omega⟩
  ·have HNO := Lib.hid (show l.any f = false from by
    rw [Bool.eq_false_iff]
    intro h
    obtain ⟨e, he, h2⟩ := List.any_eq_true.1 h
    obtain ⟨j, hj⟩ := List.mem_iff_getElem?.1 he
    have h3 := HS.out j e (by have := (List.getElem?_eq_some_iff.1 hj).1; have := HL.out; omega) hj
    rw [h2] at h3
    cases h3)
   go_wp2
   go_ret
   exact ⟨-1, rfl, by rw [HNO.out]; decide, HB.out⟩
set_option maxRecDepth 100000 in
theorem contf_any (A : Option Addr) (n c B : Nat) (l : List Ent) (w : World) (ha : Rws w B A n 2 (l.map kdc)) (hB : B <= w.heap.size) (f : Ent -> Bool)
  (hf : ∀ e ∈ l, ∀ V, Below w.heap.size w V -> Calls Tryz.prog 51 #[.agg #[.int .u8 (e.1.toNat : Int), .pointer e.2]] V fun r w' => r = .returned (.bool (f e)) /\ Below V.heap.size V w') :
  Calls Tryz.prog 50 #[.slice A n c, .func (.func 51) #[] #[]] w fun r w' => r = .returned (.bool (l.any f)) /\ Below w.heap.size w w' := by
 have HI := Lib.hid (idxf_any A n c B l w ha hB f hf)
 clear ha hf
 go_enter Tryz.func50, Tryz.ntmps50
 go_wp2_with fail
 (with_reducible refine HI.out.mono ?_)
 rintro r w1 ⟨z, rfl, hz, b1⟩
 have HZ := Lib.hid hz
 have HB := Lib.hid b1
 clear hz b1
 go_wp2_with fail
 go_ret
 exact ⟨ret_bool HZ.out, HB.out⟩
def Adj (l : List Ent) : Prop := ∀ i a b, l[i]? = some a -> l[i + 1]? = some b -> a.1.toNat < b.1.toNat
theorem Up.adj {l : List Ent} (h : Up l) : Adj l := fun i _ _ ha hb => h.at_ (Nat.lt_succ_self i) ha hb
set_option maxRecDepth 100000 in
set_option maxHeartbeats 1000000 in
theorem brise_any (A : Option Addr) (n c B : Nat) (l : List Ent) (w : World) (ha : Rws w B A n 2 (l.map kdc)) (hB : B <= w.heap.size) :
  Calls Tryz.prog 52 #[.slice A n c] w fun r w' => ∃ b : Bool, r = .returned (.bool b) /\ (b = true ↔ Adj l) /\ Below w.heap.size w w' := by
 have HA := Lib.hid (fun (V : World) (h : Below w.heap.size w V) => ha.below (h.mono hB))
 have HL := Lib.hid (Kds.len ha)
 have hn : n <= 9223372036854775807 := by have := ha.2.1; unfold maxLen at this; omega
 clear ha
 go_enter Tryz.func52, Tryz.ntmps52
 go_wp2
 go_loopw [6] (fun i wr => ∃ k : Nat, k <= n /\ i = .int .i64 (k : Int) /\ Hid (∀ j a b, j + 1 < k -> l[j]? = some a -> l[j + 1]? = some b -> a.1.toNat < b.1.toNat) /\ Hid (Below w.heap.size w wr)) (fun i _ => n - (intOf i).toNat)
 case atStart => exact ⟨0, Nat.zero_le _, rfl, Lib.hid (fun j _ _ hj => by omega), Lib.hid (Below.refl _ _)⟩
 case round =>
  obtain ⟨k, hk, rfl, HS, HB⟩ := hrel
  by_cases h1 : k < n
  ·by_cases h0 : k = 0
   ·subst h0
    have HS1 := Lib.hid (show ∀ j a b, j + 1 < 0 + 1 -> l[j]? = some a -> l[j + 1]? = some b -> a.1.toNat < b.1.toNat from fun j _ _ hj => by omega)
    go_upto_region 4 with fail
    go_quiet (fail)
    go_wp2_with fail
    exact ⟨⟨0 + 1, by omega, by go_num, HS1, Lib.hid (HB.out.trans (Still.below ⟨_, rfl⟩ _))⟩, by simp [intOf]; omega⟩
   ·obtain ⟨q, hq⟩ : ∃ q, k = q + 1 := ⟨k - 1, by omega⟩
    obtain ⟨ad, e2, rfl, _, x2, c2, _⟩ := Kds.at_ (HA.out _ HB.out) h1
    obtain ⟨ad', e1, he, _, x1, c1, _⟩ := Kds.at_ (HA.out _ HB.out) (show q < n by omega)
    injection he with he
    subst he
    have HX := Lib.hid (And.intro x1 (And.intro x2 hq))
    obtain ⟨z1, hz1⟩ : ∃ z : Nat, e1.1.toNat = z := ⟨_, rfl⟩
    obtain ⟨z2, hz2⟩ : ∃ z : Nat, e2.1.toNat = z := ⟨_, rfl⟩
    rw [hz1] at c1
    rw [hz2] at c2
    have HZ := Lib.hid (And.intro hz1 hz2)
    have ew : IntKind.i64.wrap ((k : Int) - 1) = (q : Int) := by rw [IntKind.wrap_i64]; omega
    have i0 : 0 < k := by omega
    have i2 : (q : Int) < (n : Int) := by omega
    have i3 : (k : Int) < (n : Int) := by omega
    clear x1 x2 hz1 hz2 h0 hq
    by_cases hlt : z1 < z2
    ·have HS1 := Lib.hid (show ∀ j a b, j + 1 < k + 1 -> l[j]? = some a -> l[j + 1]? = some b -> a.1.toNat < b.1.toNat from fun j a b hj ha hb => by
      have hk2 := HX.out.2.2
      rcases Nat.lt_or_ge (j + 1) k with h | h
      ·exact HS.out j a b h ha hb
      ·have : j = q := by omega
       subst this
       rw [HX.out.1] at ha
       rw [<- hk2, HX.out.2.1] at hb
       injection ha with ha
       injection hb with hb
       subst ha
       subst hb
       rw [HZ.out.1, HZ.out.2]
       exact hlt)
     have hd : ¬ z2 <= z1 := by omega
     go_upto_region 4 with fail
     go_quiet (fail)
     go_wp2_with fail
     exact ⟨⟨k + 1, by omega, by go_num, HS1, Lib.hid (HB.out.trans (Still.below ⟨_, rfl⟩ _))⟩, by simp [intOf]; omega⟩
    ·have HNO := Lib.hid (show ¬ Adj l from fun h => by
      have h1 := h q e1 e2 HX.out.1 (by rw [<- HX.out.2.2]; exact HX.out.2.1)
      rw [HZ.out.1, HZ.out.2] at h1
      exact hlt h1)
     have hd : z2 <= z1 := by omega
     go_upto_region 4 with fail
     go_quiet (fail)
     go_wp2_with fail
     go_ret
     exact ⟨false, rfl, ⟨fun q => by (cases q), fun q => absurd q HNO.out⟩, HB.out.trans (Still.below ⟨_, rfl⟩ _)⟩
  ·have HY := Lib.hid (show Adj l from fun i a b ha hb => HS.out i a b (by have := (List.getElem?_eq_some_iff.1 hb).1; have := HL.out; omega) ha hb)
   go_wp2
   go_ret
   exact ⟨true, rfl, ⟨fun _ => HY.out, fun _ => rfl⟩, HB.out⟩
end Go.Proofs.YtcbgieoiefbeiaaGreatDoor
namespace Go.Proofs.YtcbgieoiefbeiaaGreatDoor
open Go.RowKit Go.Shelf
attribute [local go_sem] Oper.semAt_some
def jB (x : Nd) (has : Bool) (val : Int) (n : Nat) : Bool := decide (x.has = has) && ((!x.has || decide (x.val = val)) && decide (x.es.length = n))
set_option maxRecDepth 100000 in
set_option maxHeartbeats 2000000 in
theorem hasjust_any {w : World} {g : Nat} {x : Nd} {be : Be} {Ab : Option Addr} (h : Nod w g x be Ab) (has : Bool) (val : Int) (A : Option Addr) (n c B : Nat) (l : List Ent) (ha : Rws w B A n 2 (l.map kdc)) (hB : B <= w.heap.size) (hg : ∀ e ∈ l, getE x.es e.1.toNat = e.2) :
  Calls Tryz.prog 53 #[.pointer (some ⟨g, 0, none⟩), .bool has, .int .u64 val, .slice A n c] w fun r w' => r = .returned (.bool (jB x has val n)) /\ Below w.heap.size w w' := by
 have HV := Lib.hid (val_any h)
 have HLN := Lib.hid (fun (V : World) (hV : Still w V) => nlen_any (h.still hV))
 have HA := Lib.hid (fun (V : World) (hV : Below w.heap.size w V) => ha.below (hV.mono hB))
 have HKD := Lib.hid (fun (V : World) (hV : Below w.heap.size w V) (e : Ent) (he : e ∈ l) (z : Int) (hz : z = (e.1.toNat : Int)) => show Calls Tryz.prog 49 #[.pointer (some ⟨g, 0, none⟩), .int .u8 z] V (fun r V' => r = .returned (.pointer e.2) /\ Still V V') from by
  have h1 := nkid_any (h.below hV) e.1 z hz
  rw [hg e he] at h1
  exact h1)
 have hn : n <= 9223372036854775807 := by have := ha.2.1; unfold maxLen at this; omega
 obtain ⟨hd, hhd⟩ : ∃ b, x.has = b := ⟨_, rfl⟩
 obtain ⟨vl, hvl⟩ : ∃ z, x.val = z := ⟨_, rfl⟩
 obtain ⟨ln, hln⟩ : ∃ k, x.es.length = k := ⟨_, rfl⟩
 have hj : jB x has val n = (decide (hd = has) && ((!hd || decide (vl = val)) && decide (ln = n))) := by unfold jB; rw [hhd, hvl, hln]
 rw [hj]
 rw [hhd, hvl] at HV
 rw [hln] at HLN
 clear ha hg h hhd hvl hln hj
 go_enter Tryz.func53, Tryz.ntmps53
 go_wp2_with fail
 (with_reducible refine HV.out.mono ?_)
 rintro e w1 ⟨rfl, s1⟩
 have HS1 := Lib.hid s1
 have HL1 := Lib.hid (HLN.out w1 s1)
 clear s1 HV
 by_cases h1 : hd = has
 ·subst h1
  by_cases h2 : hd = true /\ vl ≠ val
  ·obtain ⟨rfl, h2⟩ := h2
   have hb : (vl != val) = true := by simpa using h2
   have hr : (decide (true = true) && ((!true || decide (vl = val)) && decide (ln = n))) = false := by rw [decide_eq_false h2]; rfl
   have HR := Lib.hid hr
   clear h2 hr
   go_wp2_with fail
   go_ret
   exact ⟨ret_bool (by simpa using HR.out.symm), HS1.out.below _⟩
  ·have hr : (decide (hd = hd) && ((!hd || decide (vl = val)) && decide (ln = n))) = decide (ln = n) := by
    cases hd with
    | false => simp
    | true =>
     have : vl = val := by
      by_cases e : vl = val
      ·exact e
      ·exact absurd ⟨rfl, e⟩ h2
     simp [this]
   have HR := Lib.hid hr
   have hc : hd = false \/ (hd = true /\ (vl != val) = false) := by
    cases hd with
    | false => exact .inl rfl
    | true => exact .inr ⟨rfl, by
      by_cases e : vl = val
      ·simp [e]
      ·exact absurd ⟨rfl, e⟩ h2⟩
   clear h2 hr
   rcases hc with rfl | ⟨rfl, hb⟩
   all_goals
    go_wp2_with fail
    (with_reducible refine HL1.out.mono ?_)
    rintro e w2 ⟨rfl, s2⟩
    have HS2 := Lib.hid (HS1.out.trans s2)
    clear s2 HL1 HLN
    try clear hb
    by_cases hl : ln = n
    ·subst hl
     have hb : ((ln : Int) != (ln : Int)) = false := by simp
     have HR2 := Lib.hid (HR.out.trans (decide_eq_true rfl))
     go_wp2_with fail
     clear hb
     go_loopw [38] (fun i wr => ∃ k : Nat, k <= ln /\ i = .int .i64 (k : Int) /\ Hid (Below w.heap.size w wr)) (fun i _ => ln - (intOf i).toNat)
     case atStart => exact ⟨0, Nat.zero_le _, rfl, Lib.hid (HS2.out.below _)⟩
     case round =>
      obtain ⟨k, hk, rfl, HB⟩ := hrel
      by_cases h1 : k < ln
      ·obtain ⟨ad, e, rfl, hlt, e1, c1, c2⟩ := Kds.at_ (HA.out _ HB.out) h1
       obtain ⟨bz, hbz⟩ : ∃ z : Int, z = (e.1.toNat : Int) := ⟨_, rfl⟩
       obtain ⟨W, hW⟩ : ∃ W, wr.alloc (.cells #[.int .u8 bz, .pointer e.2] 70) = W := ⟨_, rfl⟩
       have hbw : Below w.heap.size w W := by rw [<- hW]; exact HB.out.alloc HB.out.size _
       have BX : Blk W wr.heap.size #[.int .u8 bz, .pointer e.2] := by rw [<- hW]; exact Blk.new wr _ _
       have HKX := Lib.hid (fun (V : World) (hV : Still W V) => show V.cell? ⟨wr.heap.size, 0, none⟩ = some (.int .u8 bz) /\ V.cell? ⟨wr.heap.size, 1, none⟩ = some (.pointer e.2) from by
        have h1 := (Kept.still hV (D := fun _ => False)).blk BX (fun q => q)
        exact ⟨h1.cell 0, h1.cell 1⟩)
       have HKK := Lib.hid (fun (V : World) (hV : Still W V) => HKD.out V (hbw.trans (hV.below _)) e (List.mem_of_getElem? e1) bz hbz)
       have HBW := Lib.hid hbw
       have hnq := neq_self e.2
       rw [<- hbz] at c1
       obtain ⟨pt, hpt⟩ : ∃ q, e.2 = q := ⟨_, rfl⟩
       rw [hpt] at c2 HKX HKK hnq hW
       clear hbw BX e1 hbz hpt HB
       go_upto_region 7 with fail
       clear hW
       go_region_held3 (fun w' => w'.cell? ⟨wr.heap.size, 0, none⟩ = some (.int .u8 bz) /\ w'.cell? ⟨wr.heap.size, 1, none⟩ = some (.pointer pt))
        (first
        | exact HKX.out _ (Still.refl _)
        | exact HKX.out _ (Still.drew1 _)
        | exact HKX.out _ q1)
        (first
        | (go_at_call 49; (with_reducible refine (HKK.out _ (Still.refl _)).mono ?_); rintro r v1 ⟨rfl, q1⟩)
        | (go_at_call 49; (with_reducible refine (HKK.out _ (Still.drew1 _)).mono ?_); rintro r v1 ⟨rfl, q0⟩; have q1 := (Still.drew1 _).trans q0))
       all_goals
        have HX := Lib.hid (HBW.out.trans (q1.below _))
        clear q1
        try clear q0
        go_wp2_with fail
        exact ⟨⟨k + 1, by omega, by go_num, HX⟩, by simp [intOf]; omega⟩
      ·go_wp2
       go_ret
       exact ⟨ret_bool (by first | (simp; done) | simpa using HR2.out.symm), HB.out⟩
    ·have hb : ((ln : Int) != (n : Int)) = true := by
      have : ¬ (ln : Int) = (n : Int) := by omega
      simpa using this
     have HR2 := Lib.hid (HR.out.trans (decide_eq_false hl))
     clear hl
     go_wp2_with fail
     go_ret
     exact ⟨ret_bool (by simpa using HR2.out.symm), HS2.out.below _⟩
 ·have hc : (hd = true /\ has = false) \/ (hd = false /\ has = true) := by
   cases hd <;> cases has <;> simp at h1 ⊢
  clear h1
  rcases hc with ⟨rfl, rfl⟩ | ⟨rfl, rfl⟩
  all_goals
   go_wp2_with fail
   go_ret
   exact ⟨ret_bool (by simp), HS1.out.below _⟩
end Go.Proofs.YtcbgieoiefbeiaaGreatDoor
namespace Go.Proofs.YtcbgieoiefbeiaaGreatDoor
open Go.RowKit Go.Shelf
attribute [local go_sem] Oper.semAt_some
structure LfH (w : World) (o : Int) (S : Nat -> Prop) (m : Option Nat) (rest : List Value) (cnt : Int) (x : Nn) (u : Nat) (F : Fo) (l : List Ent) (A : Option Addr) (n : Nat) : Prop where
 pos : 1 <= o
 nod : ∃ ek be Ab, Nod w u (x.nd ek) be Ab /\ ∀ i, be.all u i \/ Pb Ab x.part i -> S i
 is_ : F.Is w S l
 up : Up l
 lt : ∀ i, S i -> i < w.heap.size
 mt : Mt w m rest cnt
 off : ∀ i, m = some i -> ¬ S i
 rows : ∀ V, Kept (fun q => m = some q) w V -> Rws V w.heap.size A n 2 (l.map kdc)
 short : x.part.length <= 1000000
 kids : ∀ c T, F.kid c = some T -> x.part.length + (T.1.part.length + 1) <= 140737488355328
def LfPost (w : World) (S : Nat -> Prop) (m : Option Nat) (rest : List Value) (cnt : Int) (T : Option (Nn × Fo)) (e : Ending) (w' : World) : Prop :=
 ∃ (p' : Option Addr) (j : Nat), e = .returned (.pointer p') /\ OTre w' (fun i => S i \/ (w.heap.size <= i /\ i < w'.heap.size)) T p' /\ Kept (fun q => m = some q) w w' /\ (∀ q, m = some q -> Lst w' q (.int .i64 (cnt + (j : Nat)) :: rest)) /\ j <= 1
section
variable {w V : World} {o : Int} {S : Nat -> Prop} {m : Option Nat} {rest : List Value} {cnt : Int} {x : Nn} {u : Nat} {F : Fo} {l : List Ent} {A : Option Addr} {n : Nat}
theorem LfH.ne (h : LfH w o S m rest cnt x u F l A n) : o ≠ 0 := by have := h.pos; omega
theorem LfH.len (h : LfH w o S m rest cnt x u F l A n) : l.length = n := Kds.len (h.rows w (Kept.refl _ _))
theorem LfH.flen (h : LfH w o S m rest cnt x u F l A n) : F.len = n := by rw [<- h.is_.len, h.len]
theorem LfH.mlt (h : LfH w o S m rest cnt x u F l A n) {q : Nat} (hq : m = some q) : q < w.heap.size := h.mt.lt hq
set_option maxRecDepth 100000 in
theorem LfH.part (h : LfH w o S m rest cnt x u F l A n) (hk : Kept (fun q => m = some q) w V) : Calls Tryz.prog 44 #[.pointer (some ⟨u, 0, none⟩)] V (CrPost V x.part) := by
 obtain ⟨ek, be, Ab, n0, hS⟩ := h.nod
 exact npartr_any (n0.kept hk (fun i hi e => h.off i e (hS i hi)))
theorem LfH.mtk (h : LfH w o S m rest cnt x u F l A n) (hk : Below w.heap.size w V) : Mt V m rest cnt := h.mt.on hk
set_option maxRecDepth 100000 in
set_option maxHeartbeats 1000000 in
theorem left_none (h : LfH w o S m rest cnt x u F l A 0) (c : Nat) (val : Int) :
  Calls Tryz.prog 54 #[tkV o m, .pointer (some ⟨u, 0, none⟩), .bool false, .int .u64 val, .slice A 0 c] w (LfPost w S m rest cnt none) := by
 obtain ⟨mp, hmp⟩ : ∃ mp, mtr m = .pointer mp := ⟨_, rfl⟩
 obtain ⟨W, hW⟩ : ∃ W, w.alloc (.cells #[.int .u64 o, .pointer mp] 79) = W := ⟨_, rfl⟩
 have hb : Below w.heap.size w W := by rw [<- hW]; exact (Below.refl _ _).alloc (Nat.le_refl _) _
 have HE := Lib.hid (show LfPost w S m rest cnt none (.returned (.pointer none)) W from ⟨none, 0, rfl, rfl, Kept.of_below hb, fun q hq => by
  have h1 := ((h.mtk hb) q hq).1
  rw [Int.natCast_zero, Int.add_zero]
  exact h1, Nat.zero_le _⟩)
 show Calls _ _ #[.agg #[.int .u64 o, mtr m], _, _, _, _] _ _
 rw [hmp]
 clear h hb
 go_enter Tryz.func54, Tryz.ntmps54
 go_wp2_with fail
 go_ret
 exact HE.out
set_option maxRecDepth 100000 in
set_option maxHeartbeats 1000000 in
theorem left_leaf (h : LfH w o S m rest cnt x u F l A 0) (c : Nat) (val : Int) :
  Calls Tryz.prog 54 #[tkV o m, .pointer (some ⟨u, 0, none⟩), .bool true, .int .u64 val, .slice A 0 c] w (LfPost w S m rest cnt (some (⟨true, o, x.part, val, true⟩, .nil))) := by
 obtain ⟨mp, hmp⟩ : ∃ mp, mtr m = .pointer mp := ⟨_, rfl⟩
 obtain ⟨W, hW⟩ : ∃ W, w.alloc (.cells #[.int .u64 o, .pointer mp] 79) = W := ⟨_, rfl⟩
 have hb : Below w.heap.size w W := by rw [<- hW]; exact (Below.refl _ _).alloc (Nat.le_refl _) _
 have BB : Blk W w.heap.size #[.int .u64 o, .pointer mp] := by rw [<- hW]; exact Blk.new w _ _
 have hlt := BB.lt
 have HKC := Lib.hid (fun (V : World) (hk : Kept (fun q => m = some q) W V) => show V.cell? ⟨w.heap.size, 0, none⟩ = some (.int .u64 o) /\ V.cell? ⟨w.heap.size, 1, none⟩ = some (.pointer mp) from by
  have h1 := hk.blk BB (fun q => Nat.lt_irrefl _ (h.mlt q))
  exact ⟨h1.cell 0, h1.cell 1⟩)
 obtain ⟨pn, hpn⟩ : ∃ n, x.part.length = n := ⟨_, rfl⟩
 have HQ := Lib.hid (fun (V : World) (hV : Still W V) => show Calls Tryz.prog 44 #[.pointer (some ⟨u, 0, none⟩)] V (fun e V3 => ∃ A3 c3, e = .returned (.slice A3 pn c3) /\ Kept (fun q => m = some q) W V3 /\
   ∀ V4, Still V3 V4 -> Calls Tryz.prog 69 #[.pointer mp, .int .u64 o, .slice A3 pn c3, .int .u64 val] V4 fun e V5 => ∃ u3, e = .returned (.pointer (some ⟨u3, 0, none⟩)) /\ Kept (fun q => m = some q) W V5 /\ LfPost w S m rest cnt (some (⟨true, o, x.part, val, true⟩, .nil)) (.returned (.pointer (some ⟨u3, 0, none⟩))) V5) from by
  have bV := hV.below W.heap.size
  refine (h.part (Kept.of_below (hb.trans (bV.mono hb.size)))).mono ?_
  rintro e V3 ⟨A3, c3, rfl, y3, z3, b3, l3⟩
  have bW3 : Below W.heap.size W V3 := bV.trans (b3.mono bV.size)
  refine ⟨A3, c3, by rw [<- hpn], Kept.of_below bW3, fun V4 hV4 => ?_⟩
  have bW4 : Below W.heap.size W V4 := bW3.trans (hV4.below _)
  have bw4 : Below w.heap.size w V4 := hb.trans (bW4.mono hb.size)
  have h1 := leaf_tow (o := o) (S := S) m cnt val x.part.length c3 V3.heap.size x.part (h.mtk bw4) (y3.below (hV4.below V3.heap.size)) (hV4.below V3.heap.size).size (by have := h.short; omega) (fun q hq e => by
   have h2 := z3 q hq
   have h3 := h.mlt e
   have h4 := bV.size
   have h5 := hb.size
   omega)
  rw [hmp, hpn] at h1
  refine h1.mono ?_
  rintro e V5 ⟨u3, rfl, t5, k5, n5⟩
  have hz4 := bw4.size
  refine ⟨u3, rfl, (Kept.of_below bW4).trans k5, some ⟨u3, 0, none⟩, 1, rfl, ⟨u3, rfl, t5.tre.there.mono (fun i q => ?_)⟩, (Kept.of_below bw4).trans k5, n5, Nat.le_refl _⟩
  rcases q.1 with z | z
  ·exact .inl z
  ·exact .inr ⟨by omega, q.2⟩)
 show Calls _ _ #[.agg #[.int .u64 o, mtr m], _, _, _, _] _ _
 rw [hmp]
 clear h hb BB hlt hpn
 go_enter Tryz.func54, Tryz.ntmps54
 obtain ⟨k0, k1⟩ := HKC.out W (Kept.refl _ _)
 go_upto_region 4 with fail
 clear hW
 go_region_held3 (fun w' => w'.cell? ⟨w.heap.size, 0, none⟩ = some (.int .u64 o) /\ w'.cell? ⟨w.heap.size, 1, none⟩ = some (.pointer mp))
  (first
  | exact HKC.out _ (Kept.refl _ _)
  | exact HKC.out _ (Kept.refl _ _).drew
  | exact HKC.out _ q5
  | exact HKC.out _ q6)
  (first
  | (go_at_call 44; (with_reducible refine (HQ.out _ (Still.refl _)).mono ?_); rintro e v1 ⟨A3, c3, rfl, q5, h5⟩)
  | (go_at_call 44; (with_reducible refine (HQ.out _ (Still.drew1 _)).mono ?_); rintro e v1 ⟨A3, c3, rfl, q5, h5⟩)
  | (go_at_call 69; (with_reducible refine (h5 _ (Still.refl _)).mono ?_); rintro e v2 ⟨u3, rfl, q6, s3⟩))
 all_goals
  have HX := Lib.hid s3
  clear s3 q5 q6 h5
  go_wp2_with fail
  go_ret
  exact HX.out
set_option maxRecDepth 100000 in
set_option maxHeartbeats 2000000 in
theorem left_one (h : LfH w o S m rest cnt x u F l A 1) (c : Nat) (val : Int) :
  Calls Tryz.prog 54 #[tkV o m, .pointer (some ⟨u, 0, none⟩), .bool false, .int .u64 val, .slice A 1 c] w (LfPost w S m rest cnt (tleft o ⟨false, o, x.part, 0, false⟩ F)) := by
 obtain ⟨b, y, ky, rfl⟩ := Fo.len_one h.flen
 have hln : x.part.length + (y.part.length + 1) <= 140737488355328 := h.kids b (y, ky) (by rw [Fo.kid, if_pos rfl])
 obtain ⟨g, be', A', ek', er, el, n', hS', hk', hr⟩ := h.is_
 obtain rfl : er = [] := hr
 have ht : Tre w S y ky g := ⟨be', A', ek', n', hS', hk'⟩
 obtain ⟨mp, hmp⟩ : ∃ mp, mtr m = .pointer mp := ⟨_, rfl⟩
 obtain ⟨W, hW⟩ : ∃ W, w.alloc (.cells #[.int .u64 o, .pointer mp] 79) = W := ⟨_, rfl⟩
 have hb : Below w.heap.size w W := by rw [<- hW]; exact (Below.refl _ _).alloc (Nat.le_refl _) _
 have BB : Blk W w.heap.size #[.int .u64 o, .pointer mp] := by rw [<- hW]; exact Blk.new w _ _
 have hlt := BB.lt
 have hwk : ∀ V, Kept (fun q => m = some q) W V -> Kept (fun q => m = some q) w V := fun V hk => (Kept.of_below hb).trans hk
 obtain ⟨ad, rfl⟩ : ∃ ad, A = some ad := by
  obtain ⟨ad, _, e, _⟩ := Kds.at_ (h.rows w (Kept.refl _ _)) (j := 0) (by omega)
  exact ⟨ad, e⟩
 obtain ⟨z, hz⟩ : ∃ z : Int, z = (b.toNat : Int) := ⟨_, rfl⟩
 have HKC := Lib.hid (fun (V : World) (hk : Kept (fun q => m = some q) W V) => show (V.cell? ⟨w.heap.size, 0, none⟩ = some (.int .u64 o) /\ V.cell? ⟨w.heap.size, 1, none⟩ = some (.pointer mp)) /\ V.cell? ad = some (.int .u8 z) /\ V.cell? ⟨ad.block, ad.off + 1, none⟩ = some (.pointer (some ⟨g, 0, none⟩)) from by
  have h1 := hk.blk BB (fun q => Nat.lt_irrefl _ (h.mlt q))
  obtain ⟨ad', e, e1, _, e2, c1, c2⟩ := Kds.at_ (h.rows V (hwk V hk)) (j := 0) (by omega)
  injection e1 with e1
  subst e1
  rw [el] at e2
  injection e2 with e2
  subst e2
  rw [hz]
  have ha : ad.add (0 * 2) = ad := by simp [Addr.add]
  rw [ha] at c1 c2
  exact ⟨⟨h1.cell 0, h1.cell 1⟩, c1, c2⟩)
 have HT := Lib.hid (show tleft o ⟨false, o, x.part, 0, false⟩ (.cons b y ky .nil) = some (⟨y.leaf, o, x.part ++ b :: y.part, y.val, y.has⟩, ky) from rfl)
 have HQ := Lib.hid (fun (V : World) (hV : Still W V) => show Calls Tryz.prog 86 #[.pointer (some ⟨g, 0, none⟩), .pointer mp, .int .u64 o] V (fun e V3 => ∃ u3, e = .returned (.pointer (some ⟨u3, 0, none⟩)) /\ Kept (fun q => m = some q) W V3 /\
   ∀ V4, Still V3 V4 -> Calls Tryz.prog 85 #[.agg #[.int .u64 o, .pointer mp], .pointer (some ⟨u, 0, none⟩), .int .u8 z, .pointer (some ⟨u3, 0, none⟩)] V4 fun e V5 => e = .returned (.pointer (some ⟨u3, 0, none⟩)) /\ Kept (fun q => m = some q) W V5 /\ LfPost w S m rest cnt (some (⟨y.leaf, o, x.part ++ b :: y.part, y.val, y.has⟩, ky)) (.returned (.pointer (some ⟨u3, 0, none⟩))) V5) from by
  have bV : Below W.heap.size W V := hV.below W.heap.size
  have bw : Below w.heap.size w V := hb.trans (bV.mono hb.size)
  have h1 := Nin.copy (ht.kept (Kept.of_below bw) (fun i hi e => h.off i e hi)) o m cnt (h.mtk bw) h.off
  rw [hmp] at h1
  refine h1.mono ?_
  rintro e V3 ⟨u3, rfl, n3, k3, m3⟩
  have kW3 : Kept (fun q => m = some q) W V3 := (Kept.of_below bV).trans k3
  refine ⟨u3, rfl, kW3, fun V4 hV4 => ?_⟩
  have kW4 : Kept (fun q => m = some q) W V4 := kW3.trans (Kept.still hV4)
  have hzw := hb.size
  have hzV := bV.size
  have hz4 := kW4.size
  have n4 := (n3.kept (Kept.still hV4 (D := fun _ => False)) (fun _ _ q => q) (fun _ _ q => q)).there
  have m4 : ∀ q, m = some q -> Lst V4 q (.int .i64 (cnt + 1) :: rest) := fun q hq => (Kept.still hV4 (D := fun _ => False)).blk (m3 q hq) (fun q => q)
  have h2 := inplace_of (w := V4) (o := o) (m := m) (q := some ⟨u3, 0, none⟩) (u := u) (pt1 := x.part) (pt3 := y.part) (R := fun V5 => Kept (fun q => m = some q) W V5 /\ LfPost w S m rest cnt (some (⟨y.leaf, o, x.part ++ b :: y.part, y.val, y.has⟩, ky)) (.returned (.pointer (some ⟨u3, 0, none⟩))) V5) hz
   (fun V' hV' => h.part (hwk V' (kW4.trans (Kept.of_below hV')))) (fun V' hV' => by
    obtain ⟨_, _, _, n5⟩ := (n4.kept (Kept.of_below hV' (D := fun _ => False)) (fun _ _ q => q) (fun _ _ q => q)).nod
    exact npartr_any n5) (fun V' A2 n2 c2 hV' hbk ha => by
    have n5 := n4.kept (Kept.of_below hV' (D := fun _ => False)) (fun _ _ q => q) (fun _ _ q => q)
    have hzz := hV'.size
    refine (n5.setpart rfl h.ne (fun i hi q => by have := h.lt i hi; have := q.1; omega) (c := c2) ha (Nat.le_refl _) (by have := ha.1; rw [List.length_append, List.length_cons] at this; omega)).mono ?_
    rintro e V5 ⟨rfl, n6, k6⟩
    have kW5 : Kept (fun q => m = some q) W V5 := (kW4.trans (Kept.of_below hV')).trans' k6 (fun i hi q => by have := q.1; omega)
    refine ⟨⟨_, rfl⟩, k6.blk hbk (fun q => by have := q.2; omega), kW5, some ⟨u3, 0, none⟩, 1, rfl, ⟨u3, rfl, n6.there.tre.mono (fun i q => ?_)⟩, hwk V5 kW5, fun q hq => ?_, Nat.le_refl _⟩
    ·rcases q with q | ⟨q | q, q2⟩
     ·exact .inl q
     ·exact .inr ⟨by have := q.1; omega, q2⟩
     ·exact .inr ⟨by omega, q2⟩
    ·have h3 : Lst V' q (.int .i64 (cnt + 1) :: rest) := (Kept.of_below hV' (D := fun _ => False)).blk (m4 q hq) (fun q => q)
     exact k6.blk h3 (fun z => by have := h.mlt hq; have := z.1; omega)) (by rw [List.length_append, List.length_cons]; omega)
  unfold tkV at h2
  rw [hmp] at h2
  exact h2)
 show Calls _ _ #[.agg #[.int .u64 o, mtr m], _, _, _, _] _ _
 rw [hmp, HT.out]
 clear h hb BB hlt hln ht n' hS' hk' el hwk hz
 go_enter Tryz.func54, Tryz.ntmps54
 go_upto_region 6 with fail
 clear hW
 go_region_held3 (fun w' => (w'.cell? ⟨w.heap.size, 0, none⟩ = some (.int .u64 o) /\ w'.cell? ⟨w.heap.size, 1, none⟩ = some (.pointer mp)) /\ w'.cell? ad = some (.int .u8 z) /\ w'.cell? ⟨ad.block, ad.off + 1, none⟩ = some (.pointer (some ⟨g, 0, none⟩)))
  (first
  | exact HKC.out _ (Kept.refl _ _)
  | exact HKC.out _ (Kept.refl _ _).drew
  | exact HKC.out _ q5
  | exact HKC.out _ q6)
  (first
  | (go_at_call 86; (with_reducible refine (HQ.out _ (Still.refl _)).mono ?_); rintro e v1 ⟨u3, rfl, q5, h5⟩)
  | (go_at_call 86; (with_reducible refine (HQ.out _ (Still.drew1 _)).mono ?_); rintro e v1 ⟨u3, rfl, q5, h5⟩)
  | (go_at_call 85; (with_reducible refine (h5 _ (Still.refl _)).mono ?_); rintro e v2 ⟨rfl, q6, s3⟩))
 all_goals
  have HX := Lib.hid s3
  clear s3 q5 q6 h5
  go_wp2_with fail
  go_ret
  exact HX.out
def Fo.tk : Nat -> Fo -> Fo
 | 0, _ => .nil
 | _ + 1, .nil => .nil
 | j + 1, .cons b y ky r => .cons b y ky (r.tk j)
theorem Fo.tk_all : ∀ (F : Fo), F.tk F.len = F
 | .nil => rfl
 | .cons b y ky r => by rw [Fo.len, Fo.tk, Fo.tk_all r]
theorem Fo.tk_next {w : World} {S : Nat -> Prop} : ∀ {F : Fo} {l : List Ent}, F.Is w S l -> Up l -> ∀ {j : Nat} {e : Ent}, l[j]? = some e ->
  ∃ g y ky, e.2 = some ⟨g, 0, none⟩ /\ Tre w S y ky g /\ F.tk (j + 1) = (F.tk j).app (.cons e.1 y ky .nil) /\ (F.tk j).All (fun b _ _ => b.toNat < e.1.toNat)
 | .nil, _, h, _, j, e, he => by
  obtain rfl : _ = [] := h
  simp at he
 | .cons b y ky r, _, ⟨g, be, A, ek, er, e0, h1, h2, h3, h4⟩, hu, j, e, he => by
  subst e0
  obtain ⟨u1, u2⟩ := List.pairwise_cons.1 hu
  cases j with
  | zero =>
   simp at he
   subst he
   exact ⟨g, y, ky, rfl, ⟨be, A, ek, h1, h2, h3⟩, by rw [Fo.tk, Fo.tk, Fo.tk]; rfl, by rw [Fo.tk]; trivial⟩
  | succ j =>
   rw [List.getElem?_cons_succ] at he
   obtain ⟨g', y', ky', q1, q2, q3, q4⟩ := Fo.tk_next h4 u2 he
   exact ⟨g', y', ky', q1, q2, by rw [Fo.tk, q3, Fo.tk]; rfl, by rw [Fo.tk]; exact ⟨u1 e (List.mem_of_getElem? he), q4⟩⟩
def LmS (W V : World) (S : Nat -> Prop) (m : Option Nat) (rest : List Value) (cnt : Int) (y : Nn) (f : Fo) (u3 : Nat) : Prop :=
 Kept (fun q => m = some q) W V /\ Nin V y f u3 S (fun i => W.heap.size <= i /\ i < V.heap.size) /\ ∀ q, m = some q -> Lst V q (.int .i64 (cnt + 1) :: rest)
theorem LmS.on {W V V' : World} {y : Nn} {f : Fo} {u3 : Nat} (h : LmS W V S m rest cnt y f u3) (hb : Below V.heap.size V V') : LmS W V' S m rest cnt y f u3 := by
 have hz := hb.size
 exact ⟨h.1.trans (Kept.of_below hb), (h.2.1.kept (Kept.of_below hb (D := fun _ => False)) (fun _ _ q => q) (fun _ _ q => q)).mono (fun i q => ⟨q.1, by omega⟩), fun q hq => (Kept.of_below hb (D := fun _ => False)).blk (h.2.2 q hq) (fun q => q)⟩
theorem LmS.wrote {W V V' : World} {y y' : Nn} {f f' : Fo} {u3 : Nat} (h : LmS W V S m rest cnt y f u3) (hm : ∀ q, m = some q -> q < W.heap.size) (hn : Nin V' y' f' u3 S (fun i => (W.heap.size <= i /\ i < V.heap.size) \/ V.heap.size <= i)) (hk : Kept (fun i => W.heap.size <= i /\ i < V.heap.size) V V') : LmS W V' S m rest cnt y' f' u3 := by
 have hz := hk.size
 have hz0 := h.1.size
 refine ⟨h.1.trans' hk (fun i hi q => by omega), hn.there.mono (fun i q => ⟨?_, q.2⟩), fun q hq => hk.blk (h.2.2 q hq) (fun z => by have := hm q hq; omega)⟩
 rcases q.1 with z | z
 ·exact z.1
 ·omega
set_option maxRecDepth 100000 in
set_option maxHeartbeats 4000000 in
theorem left_more (h : LfH w o S m rest cnt x u F l A n) (c : Nat) (has : Bool) (val : Int) (hn2 : 2 <= n + (if has = true then 1 else 0)) (hn3 : n <= 256) :
  Calls Tryz.prog 54 #[tkV o m, .pointer (some ⟨u, 0, none⟩), .bool has, .int .u64 val, .slice A n c] w (LfPost w S m rest cnt (tleft o ⟨false, o, x.part, if has = true then val else 0, has⟩ F)) := by
 have HT := Lib.hid (tleft_two (o := o) (x := ⟨false, o, x.part, if has = true then val else 0, has⟩) (k := F) (by rw [h.flen]; exact hn2))
 obtain ⟨mp, hmp⟩ : ∃ mp, mtr m = .pointer mp := ⟨_, rfl⟩
 obtain ⟨W, hW⟩ : ∃ W, w.alloc (.cells #[.int .u64 o, .pointer mp] 79) = W := ⟨_, rfl⟩
 have hb : Below w.heap.size w W := by rw [<- hW]; exact (Below.refl _ _).alloc (Nat.le_refl _) _
 have BB : Blk W w.heap.size #[.int .u64 o, .pointer mp] := by rw [<- hW]; exact Blk.new w _ _
 have hlt := BB.lt
 have hwk : ∀ V, Kept (fun q => m = some q) W V -> Kept (fun q => m = some q) w V := fun V hk => (Kept.of_below hb).trans hk
 have hmw : ∀ q, m = some q -> q < W.heap.size := fun q hq => by have := h.mlt hq; omega
 have HKC := Lib.hid (fun (V : World) (hk : Kept (fun q => m = some q) W V) => show V.cell? ⟨w.heap.size, 0, none⟩ = some (.int .u64 o) /\ V.cell? ⟨w.heap.size, 1, none⟩ = some (.pointer mp) from by
  have h1 := hk.blk BB (fun q => Nat.lt_irrefl _ (h.mlt q))
  exact ⟨h1.cell 0, h1.cell 1⟩)
 obtain ⟨pn, hpn⟩ : ∃ n, x.part.length = n := ⟨_, rfl⟩
 have HQ := Lib.hid (fun (V : World) (hV : Still W V) => show Calls Tryz.prog 44 #[.pointer (some ⟨u, 0, none⟩)] V (fun e V3 => ∃ A3 c3, e = .returned (.slice A3 pn c3) /\ Kept (fun q => m = some q) W V3 /\
   ∀ V4, Still V3 V4 -> Calls Tryz.prog 87 #[.pointer mp, .int .u64 o, .slice A3 pn c3] V4 fun e V5 => ∃ u3, e = .returned (.pointer (some ⟨u3, 0, none⟩)) /\ LmS W V5 S m rest cnt ⟨false, o, x.part, 0, false⟩ .nil u3) from by
  have bV := hV.below W.heap.size
  refine (h.part (Kept.of_below (hb.trans (bV.mono hb.size)))).mono ?_
  rintro e V3 ⟨A3, c3, rfl, y3, z3, b3, l3⟩
  have bW3 : Below W.heap.size W V3 := bV.trans (b3.mono bV.size)
  refine ⟨A3, c3, by rw [<- hpn], Kept.of_below bW3, fun V4 hV4 => ?_⟩
  have bW4 : Below W.heap.size W V4 := bW3.trans (hV4.below _)
  have bw4 : Below w.heap.size w V4 := hb.trans (bW4.mono hb.size)
  have h1 := Nin.inner o S m cnt x.part.length c3 V3.heap.size (h.mtk bw4) (y3.below (hV4.below V3.heap.size)) (hV4.below V3.heap.size).size (by have := h.short; omega) (fun q hq e => by
   have h2 := z3 q hq
   have h3 := h.mlt e
   have h4 := bV.size
   have h5 := hb.size
   omega)
  rw [hmp, hpn] at h1
  refine h1.mono ?_
  rintro e V5 ⟨u3, rfl, n5, k5, m5⟩
  have hz4 := bW4.size
  exact ⟨u3, rfl, (Kept.of_below bW4).trans k5, n5.there.mono (fun i q => ⟨by have := q.1; omega, q.2⟩), m5⟩)
 have hSD : ∀ V, ∀ i, S i -> ¬ (W.heap.size <= i /\ i < V) := fun V i hi q => by have := h.lt i hi; omega
 have HSV := Lib.hid (fun (V : World) (u3 : Nat) (hs : LmS W V S m rest cnt ⟨false, o, x.part, 0, false⟩ .nil u3) => show Calls Tryz.prog 72 #[.pointer (some ⟨u3, 0, none⟩), .int .u64 o, .int .u64 val] V (fun e V' => e = .returned (.int .i64 0) /\ LmS W V' S m rest cnt ⟨false, o, x.part, val, true⟩ .nil u3) from by
  refine (hs.2.1.setval rfl h.ne (hSD _) val).mono ?_
  rintro e V' ⟨rfl, n6, k6⟩
  exact ⟨rfl, hs.wrote hmw n6 k6⟩)
 have HSK := Lib.hid (fun (yv : Int) (yh : Bool) (V : World) (u3 j : Nat) (e : Ent) (z : Int) (hz : z = (e.1.toNat : Int)) (he : l[j]? = some e) (hs : LmS W V S m rest cnt ⟨false, o, x.part, yv, yh⟩ (F.tk j) u3) => show Calls Tryz.prog 61 #[.pointer (some ⟨u3, 0, none⟩), .int .u64 o, .int .u8 z, .pointer e.2] V (fun r V' => r = .returned (.int .i64 0) /\ LmS W V' S m rest cnt ⟨false, o, x.part, yv, yh⟩ (F.tk (j + 1)) u3) from by
  obtain ⟨g, y, ky, q1, q2, q3, q4⟩ := Fo.tk_next h.is_ h.up he
  rw [q1, q3]
  refine (hs.2.1.setkid rfl h.ne rfl (hSD _) (q2.kept (hwk V hs.1) (fun i hi e => h.off i e hi)) q4 z hz).mono ?_
  rintro r V' ⟨rfl, n6, k6⟩
  exact ⟨rfl, hs.wrote hmw n6 k6⟩)
 have HRW := Lib.hid (fun (V : World) (hk : Kept (fun q => m = some q) W V) => h.rows V (hwk V hk))
 have HF := Lib.hid (fun (V : World) (u3 : Nat) (yv : Int) (yh : Bool) (hs : LmS W V S m rest cnt ⟨false, o, x.part, yv, yh⟩ (F.tk n) u3) => show LfPost w S m rest cnt (some (⟨false, o, x.part, yv, yh⟩, F)) (.returned (.pointer (some ⟨u3, 0, none⟩))) V from by
  have hzw := hb.size
  have h1 := hs.2.1
  rw [<- h.flen, Fo.tk_all] at h1
  refine ⟨some ⟨u3, 0, none⟩, 1, rfl, ⟨u3, rfl, h1.tre.mono (fun i q => q.imp id (fun z => ⟨by omega, z.2⟩))⟩, hwk V hs.1, hs.2.2, Nat.le_refl _⟩)
 show Calls _ _ #[.agg #[.int .u64 o, mtr m], _, _, _, _] _ _
 rw [hmp, HT.out]
 have hcs : (has = true /\ 1 <= n) \/ (has = false /\ 2 <= n) := by
  cases has with
  | true => exact .inl ⟨rfl, by simp at hn2; omega⟩
  | false => exact .inr ⟨rfl, by simpa using hn2⟩
 clear h hb BB hlt hwk hmw hpn hSD hn2
 have hn0 : ((n : Int) == 0) = false := by rw [beq_eq_false_iff_ne]; omega
 go_enter Tryz.func54, Tryz.ntmps54
 rcases hcs with ⟨rfl, hn1⟩ | ⟨rfl, hn1⟩
 ·have hnn : ((n : Int) == 1) = true \/ ((n : Int) == 1) = false := by cases ((n : Int) == 1) <;> simp
  rcases hnn with hnn | hnn
  all_goals
   go_upto_region 7 with fail
   clear hW
   go_cut [11] (fun v11 wc => ∃ u3, v11 = .pointer (some ⟨u3, 0, none⟩) /\ Hid (LmS W wc S m rest cnt ⟨false, o, x.part, 0, false⟩ .nil u3))
   case first =>
    go_region_held3 (fun w' => w'.cell? ⟨w.heap.size, 0, none⟩ = some (.int .u64 o) /\ w'.cell? ⟨w.heap.size, 1, none⟩ = some (.pointer mp))
     (first
     | exact HKC.out _ (Kept.refl _ _)
     | exact HKC.out _ (Kept.refl _ _).drew
     | exact HKC.out _ q5
     | exact HKC.out _ s3.1)
     (first
     | (go_at_call 44; (with_reducible refine (HQ.out _ (Still.refl _)).mono ?_); rintro e v1 ⟨A3, c3, rfl, q5, h5⟩)
     | (go_at_call 44; (with_reducible refine (HQ.out _ (Still.drew1 _)).mono ?_); rintro e v1 ⟨A3, c3, rfl, q5, h5⟩)
     | (go_at_call 87; (with_reducible refine (h5 _ (Still.refl _)).mono ?_); rintro e v2 ⟨u3, rfl, s3⟩))
    all_goals
     have HX := Lib.hid s3
     clear s3 q5 h5
     go_wp2_with fail
     go_meet
     exact ⟨u3, rfl, HX⟩
   case rest =>
   obtain ⟨u3, rfl, HL⟩ := hcut
   obtain ⟨k0, k1⟩ := HKC.out _ HL.out.1
   have H8 := Lib.hid (HSV.out _ u3 HL.out)
   clear HL
   go_wp2_with fail
   (with_reducible refine H8.out.mono ?_)
   rintro e w8 ⟨rfl, s8⟩
   have HL := Lib.hid s8
   obtain ⟨k0, k1⟩ := HKC.out _ HL.out.1
   clear s8 H8
   go_wp2_with fail
   go_loopw [73] (fun i wr => ∃ k : Nat, k <= n /\ i = .int .i64 (k : Int) /\ Hid (LmS W wr S m rest cnt ⟨false, o, x.part, val, true⟩ (F.tk k) u3)) (fun i _ => n - (intOf i).toNat)
   case atStart => exact ⟨0, Nat.zero_le _, rfl, Lib.hid (by rw [Fo.tk]; exact HL.out)⟩
   case round =>
    obtain ⟨k, hk, rfl, HS⟩ := hrel
    clear k0 k1 HL
    by_cases h1 : k < n
    ·obtain ⟨ad, e, rfl, hlt, e1, c1, c2⟩ := Kds.at_ (HRW.out _ HS.out.1) h1
     obtain ⟨bz, hbz⟩ : ∃ z : Int, z = (e.1.toNat : Int) := ⟨_, rfl⟩
     obtain ⟨W1, hW1⟩ : ∃ W1, wr.alloc (.cells #[.int .u8 bz, .pointer e.2] 70) = W1 := ⟨_, rfl⟩
     have hb1 : Below wr.heap.size wr W1 := by rw [<- hW1]; exact (Below.refl _ _).alloc (Nat.le_refl _) _
     have BX : Blk W1 wr.heap.size #[.int .u8 bz, .pointer e.2] := by rw [<- hW1]; exact Blk.new wr _ _
     have hs1 := HS.out.on hb1
     have HK1 := Lib.hid (HSK.out val true W1 u3 k e bz hbz e1 hs1)
     obtain ⟨k0, k1⟩ := HKC.out _ hs1.1
     have x0 : W1.cell? ⟨wr.heap.size, 0, none⟩ = some (.int .u8 bz) := BX.cell 0
     have x1 : W1.cell? ⟨wr.heap.size, 1, none⟩ = some (.pointer e.2) := BX.cell 1
     rw [<- hbz] at c1
     obtain ⟨pt, hpt⟩ : ∃ q, e.2 = q := ⟨_, rfl⟩
     rw [hpt] at c2 HK1 x1 hW1
     clear hs1 hb1 BX e1 hbz hpt HS
     go_wp2_with fail
     (with_reducible refine HK1.out.mono ?_)
     rintro r w5 ⟨rfl, s5⟩
     have HS5 := Lib.hid s5
     clear s5 HK1 hW1 x0 x1
     go_wp2_with fail
     exact ⟨⟨k + 1, by omega, by go_num, HS5⟩, by simp [intOf]; omega⟩
    ·obtain rfl : k = n := by omega
     have HX := Lib.hid (HF.out _ _ _ _ HS.out)
     go_wp2_with fail
     go_ret
     exact HX.out
 ·have hn1' : ((n : Int) == 1) = false := by rw [beq_eq_false_iff_ne]; omega
  go_upto_region 7 with fail
  clear hW
  go_cut [11] (fun v11 wc => ∃ u3, v11 = .pointer (some ⟨u3, 0, none⟩) /\ Hid (LmS W wc S m rest cnt ⟨false, o, x.part, 0, false⟩ .nil u3))
  case first =>
   go_region_held3 (fun w' => w'.cell? ⟨w.heap.size, 0, none⟩ = some (.int .u64 o) /\ w'.cell? ⟨w.heap.size, 1, none⟩ = some (.pointer mp))
    (first
    | exact HKC.out _ (Kept.refl _ _)
    | exact HKC.out _ (Kept.refl _ _).drew
    | exact HKC.out _ q5
    | exact HKC.out _ s3.1)
    (first
    | (go_at_call 44; (with_reducible refine (HQ.out _ (Still.refl _)).mono ?_); rintro e v1 ⟨A3, c3, rfl, q5, h5⟩)
    | (go_at_call 44; (with_reducible refine (HQ.out _ (Still.drew1 _)).mono ?_); rintro e v1 ⟨A3, c3, rfl, q5, h5⟩)
    | (go_at_call 87; (with_reducible refine (h5 _ (Still.refl _)).mono ?_); rintro e v2 ⟨u3, rfl, s3⟩))
   all_goals
    have HX := Lib.hid s3
    clear s3 q5 h5
    go_wp2_with fail
    go_meet
    exact ⟨u3, rfl, HX⟩
  case rest =>
  obtain ⟨u3, rfl, HL⟩ := hcut
  obtain ⟨k0, k1⟩ := HKC.out _ HL.out.1
  go_wp2_with fail
  go_loopw [73] (fun i wr => ∃ k : Nat, k <= n /\ i = .int .i64 (k : Int) /\ Hid (LmS W wr S m rest cnt ⟨false, o, x.part, 0, false⟩ (F.tk k) u3)) (fun i _ => n - (intOf i).toNat)
  case atStart => exact ⟨0, Nat.zero_le _, rfl, Lib.hid (by rw [Fo.tk]; exact HL.out)⟩
  case round =>
   obtain ⟨k, hk, rfl, HS⟩ := hrel
   clear k0 k1 HL
   by_cases h1 : k < n
   ·obtain ⟨ad, e, rfl, hlt, e1, c1, c2⟩ := Kds.at_ (HRW.out _ HS.out.1) h1
    obtain ⟨bz, hbz⟩ : ∃ z : Int, z = (e.1.toNat : Int) := ⟨_, rfl⟩
    obtain ⟨W1, hW1⟩ : ∃ W1, wr.alloc (.cells #[.int .u8 bz, .pointer e.2] 70) = W1 := ⟨_, rfl⟩
    have hb1 : Below wr.heap.size wr W1 := by rw [<- hW1]; exact (Below.refl _ _).alloc (Nat.le_refl _) _
    have BX : Blk W1 wr.heap.size #[.int .u8 bz, .pointer e.2] := by rw [<- hW1]; exact Blk.new wr _ _
    have hs1 := HS.out.on hb1
    have HK1 := Lib.hid (HSK.out 0 false W1 u3 k e bz hbz e1 hs1)
    obtain ⟨k0, k1⟩ := HKC.out _ hs1.1
    have x0 : W1.cell? ⟨wr.heap.size, 0, none⟩ = some (.int .u8 bz) := BX.cell 0
    have x1 : W1.cell? ⟨wr.heap.size, 1, none⟩ = some (.pointer e.2) := BX.cell 1
    rw [<- hbz] at c1
    obtain ⟨pt, hpt⟩ : ∃ q, e.2 = q := ⟨_, rfl⟩
    rw [hpt] at c2 HK1 x1 hW1
    clear hs1 hb1 BX e1 hbz hpt HS
    go_wp2_with fail
    (with_reducible refine HK1.out.mono ?_)
    rintro r w5 ⟨rfl, s5⟩
    have HS5 := Lib.hid s5
    clear s5 HK1 hW1 x0 x1
    go_wp2_with fail
    exact ⟨⟨k + 1, by omega, by go_num, HS5⟩, by simp [intOf]; omega⟩
   ·obtain rfl : k = n := by omega
    have HX := Lib.hid (HF.out _ _ _ _ HS.out)
    go_wp2_with fail
    go_ret
    exact HX.out
end
end Go.Proofs.YtcbgieoiefbeiaaGreatDoor
namespace Go.Proofs.YtcbgieoiefbeiaaGreatDoor
open Go.RowKit Go.Shelf
attribute [local go_sem] Oper.semAt_some
section
variable {w V : World} {o : Int} {S : Nat -> Prop} {m : Option Nat} {rest : List Value} {cnt : Int} {x : Nn} {u : Nat} {F : Fo} {l : List Ent} {A : Option Addr} {n : Nat}
set_option maxRecDepth 100000 in
theorem left_any (h : LfH w o S m rest cnt x u F l A n) (c : Nat) (has : Bool) (val : Int) (hn3 : n <= 256) :
  Calls Tryz.prog 54 #[tkV o m, .pointer (some ⟨u, 0, none⟩), .bool has, .int .u64 val, .slice A n c] w (LfPost w S m rest cnt (tleft o ⟨false, o, x.part, if has = true then val else 0, has⟩ F)) := by
 by_cases hn2 : 2 <= n + (if has = true then 1 else 0)
 ·exact left_more h c has val hn2 hn3
 ·cases has with
  | true =>
   obtain rfl : n = 0 := by simp at hn2; omega
   obtain rfl : F = .nil := by
    have := h.flen
    cases F with
    | nil => rfl
    | cons _ _ _ _ => cases this
   exact left_leaf h c val
  | false =>
   have hn1 : n = 0 \/ n = 1 := by simp at hn2; omega
   rcases hn1 with rfl | rfl
   ·obtain rfl : F = .nil := by
     have := h.flen
     cases F with
     | nil => rfl
     | cons _ _ _ _ => cases this
    exact left_none h c val
   ·exact left_one h c val
theorem LfH.on (h : LfH w o S m rest cnt x u F l A n) (hb : Below w.heap.size w V) : LfH V o S m rest cnt x u F l A n := by
 obtain ⟨ek, be, Ab, n0, hS⟩ := h.nod
 have hz := hb.size
 exact ⟨h.pos, ⟨ek, be, Ab, n0.below hb, hS⟩, h.is_.kept (Kept.of_below hb (D := fun _ => False)) (fun _ _ q => q), h.up, fun i hi => Nat.lt_of_lt_of_le (h.lt i hi) hz, h.mtk hb, h.off, fun V' hk => (h.rows V' ((Kept.of_below hb).trans hk)).more hz, h.short, h.kids⟩
set_option maxRecDepth 100000 in
theorem nils_any {B c : Nat} {L : List Ent} (ha : Rws w B A n 2 (L.map kdc)) (hB : B <= w.heap.size) (hk : ∀ e ∈ L, ∀ a, e.2 = some a -> ∃ g x be Ab, a = ⟨g, 0, none⟩ /\ Nod w g x be Ab) :
  Calls Tryz.prog 50 #[.slice A n c, .func (.func 51) #[] #[]] w fun r w' => r = .returned (.bool (L.any fun e => e.2.isNone)) /\ Below w.heap.size w w' := by
 refine contf_any A n c B L w ha hB (fun e => e.2.isNone) (fun e he V hV => ?_)
 rcases hx : e.2 with _ | a
 ·have h1 := left1_any (p := none) (kd := 0) (z := (e.1.toNat : Int)) (w := V) (fun V' _ => (nkind_nil V').mono (fun r w' ⟨h1, h2⟩ => ⟨h1, h2 ▸ Still.refl _⟩))
  exact h1
 ·obtain ⟨g, y, be, Ab, rfl, nd⟩ := hk e he a hx
  have h1 := left1_any (p := some ⟨g, 0, none⟩) (kd := kindD y) (z := (e.1.toNat : Int)) (w := V) (fun V' hV' => nkind_any (nd.below (hV.trans (hV'.mono hV.size))))
  have h2 : (kindD y == 0) = false := by
   have := kindD_ne y
   simpa using this
  rw [h2] at h1
  exact h1
set_option maxRecDepth 100000 in
theorem dl_zero (p A : Option Addr) (n c : Nat) (has : Bool) (val : Int) (q : Option Addr) (w : World) :
  Calls Tryz.prog 23 #[.pointer p, .bool has, .int .u64 val, .slice A n c, .int .u64 0, .pointer q] w fun e w' => e = .returned (.tuple #[.pointer none, .int .i64 1]) /\ w' = w := by
 go_enter Tryz.func23, Tryz.ntmps23
 go_wp2
 go_ret2
 exact ⟨rfl, rfl⟩
set_option maxRecDepth 100000 in
theorem dl_arg (p : Option Addr) (c : Nat) (has : Bool) (val : Int) (q : Option Addr) {B : Nat} {L : List Ent} (ho : 1 <= o) (ha : Rws w B A n 2 (L.map kdc)) (hB : B <= w.heap.size) (hk : ∀ e ∈ L, ∀ a, e.2 = some a -> ∃ g x be Ab, a = ⟨g, 0, none⟩ /\ Nod w g x be Ab) (hy : (L.any fun e => e.2.isNone) = true) :
  Calls Tryz.prog 23 #[.pointer p, .bool has, .int .u64 val, .slice A n c, .int .u64 o, .pointer q] w fun e w' => e = .returned (.tuple #[.pointer none, .int .i64 1]) /\ Below w.heap.size w w' := by
 have HN := nils_any (c := c) ha hB hk
 rw [hy] at HN
 have HN := Lib.hid HN
 have h0 : (o == 0) = false := by
  have : ¬ o = 0 := by omega
  simpa using this
 clear ha hk hy
 go_enter Tryz.func23, Tryz.ntmps23
 go_wp2_with fail
 (with_reducible refine HN.out.mono ?_)
 rintro e w1 ⟨rfl, b1⟩
 have B1 := Lib.hid b1
 clear b1
 go_wp2_with fail
 go_ret2
 exact ⟨rfl, B1.out⟩
set_option maxRecDepth 100000 in
theorem dl_kind {p : Option Addr} {kd r : Int} (c : Nat) (has : Bool) (val : Int) (q : Option Addr) (ho : 1 <= o) (hk : ∀ V, Below w.heap.size w V -> Calls Tryz.prog 39 #[.pointer p] V fun e w' => e = .returned (.int .i64 kd) /\ Still V w') (hc : (kd = 0 /\ r = 2) \/ (kd = 1 /\ r = 9)) :
  Calls Tryz.prog 23 #[.pointer p, .bool has, .int .u64 val, .slice A 0 c, .int .u64 o, .pointer q] w fun e w' => e = .returned (.tuple #[.pointer none, .int .i64 r]) /\ Below w.heap.size w w' := by
 have HN := Lib.hid (nils_any (c := c) (A := A) (n := 0) (B := 0) (L := []) (w := w) ⟨rfl, by unfold maxLen; omega, by simp, fun h => absurd h (by omega)⟩ (Nat.zero_le _) (fun e he => by cases he))
 have h0 : (o == 0) = false := by
  have : ¬ o = 0 := by omega
  simpa using this
 have HK := Lib.hid hk
 clear hk
 rcases hc with ⟨rfl, rfl⟩ | ⟨rfl, rfl⟩
 all_goals
  go_enter Tryz.func23, Tryz.ntmps23
  go_wp2_with fail
  (with_reducible refine HN.out.mono ?_)
  rintro e w1 ⟨rfl, b1⟩
  have HK1 := Lib.hid (HK.out w1 b1)
  have B1 := Lib.hid b1
  clear b1 HN
  go_wp2_with fail
  (with_reducible refine HK1.out.mono ?_)
  rintro e w2 ⟨rfl, s2⟩
  have B2 := Lib.hid (B1.out.trans (s2.below _))
  clear s2 HK1
  go_wp2_with fail
  go_ret2
  exact ⟨rfl, B2.out⟩
set_option maxRecDepth 100000 in
theorem dl_order {ek : List Ent} {be : Be} {Ab : Option Addr} (nd : Nod w u (x.nd ek) be Ab) (hx : x.leaf = false) (c : Nat) (has : Bool) (val : Int) (q : Option Addr) {B : Nat} {L : List Ent} (ho : 1 <= o) (ha : Rws w B A n 2 (L.map kdc)) (hB : B <= w.heap.size) (hk : ∀ e ∈ L, ∀ a, e.2 = some a -> ∃ g x be Ab, a = ⟨g, 0, none⟩ /\ Nod w g x be Ab) (hy : (L.any fun e => e.2.isNone) = false) (hno : ¬ Adj L) :
  Calls Tryz.prog 23 #[.pointer (some ⟨u, 0, none⟩), .bool has, .int .u64 val, .slice A n c, .int .u64 o, .pointer q] w fun e w' => e = .returned (.tuple #[.pointer none, .int .i64 12]) /\ Below w.heap.size w w' := by
 have HN := nils_any (c := c) ha hB hk
 rw [hy] at HN
 have HN := Lib.hid HN
 have h0 : (o == 0) = false := by
  have : ¬ o = 0 := by omega
  simpa using this
 obtain ⟨kd, hkd⟩ : ∃ z, kindD (x.nd ek) = z := ⟨_, rfl⟩
 have k0 : (kd == 0) = false := by
  have := kindD_ne (x.nd ek)
  rw [hkd] at this
  simpa using this
 have k1 : (kd == 1) = false := by
  have := kindD_inner (x := x) (ek := ek) hx
  rw [hkd] at this
  simpa using this
 have HK := Lib.hid (fun (V : World) (hV : Below w.heap.size w V) => nkind_any (nd.below hV))
 rw [hkd] at HK
 have HB := Lib.hid (fun (V : World) (hV : Below w.heap.size w V) => brise_any A n c B L V (ha.below (hV.mono hB)) (Nat.le_trans hB hV.size))
 have HNO := Lib.hid hno
 clear ha hk hy nd hkd hno
 go_enter Tryz.func23, Tryz.ntmps23
 go_wp2_with fail
 (with_reducible refine HN.out.mono ?_)
 rintro e w1 ⟨rfl, b1⟩
 have HK1 := Lib.hid (HK.out w1 b1)
 have B1 := Lib.hid b1
 clear b1 HN HK
 go_wp2_with fail
 (with_reducible refine HK1.out.mono ?_)
 rintro e w2 ⟨rfl, s2⟩
 have B2 := Lib.hid (B1.out.trans (s2.below _))
 have HB2 := Lib.hid (HB.out w2 B2.out)
 clear s2 HK1 HB
 go_wp2_with fail
 (with_reducible refine HB2.out.mono ?_)
 rintro e w3 ⟨b, rfl, hb, b3⟩
 obtain rfl : b = false := by
  cases b with
  | false => rfl
  | true => exact absurd (hb.1 rfl) HNO.out
 have B3 := Lib.hid (B2.out.trans (b3.mono B2.out.size))
 clear hb b3 HB2
 go_wp2_with fail
 go_ret2
 exact ⟨rfl, B3.out⟩
def DlPost (w : World) (S : Nat -> Prop) (m : Option Nat) (rest : List Value) (cnt : Int) (u : Nat) (j : Bool) (T : Option (Nn × Fo)) (e : Ending) (w' : World) : Prop :=
 ∃ (p' : Option Addr) (i : Nat), e = .returned (.tuple #[.pointer p', .int .i64 0]) /\ Kept (fun q => m = some q) w w' /\ (∀ q, m = some q -> Lst w' q (.int .i64 (cnt + (i : Nat)) :: rest)) /\ i <= 1 /\ (j = true -> p' = some ⟨u, 0, none⟩ /\ i = 0) /\ (j = false -> OTre w' (fun i => S i \/ (w.heap.size <= i /\ i < w'.heap.size)) T p')
set_option maxRecDepth 100000 in
set_option maxHeartbeats 1000000 in
theorem dleft_any (h : LfH w o S m rest cnt x u F l A n) {ek : List Ent} {be : Be} {Ab : Option Addr} (nd : Nod w u (x.nd ek) be Ab) (hx : x.leaf = false) (hg : ∀ e ∈ l, getE ek e.1.toNat = e.2) (hk : ∀ e ∈ l, ∃ g x be Ab, e.2 = some ⟨g, 0, none⟩ /\ Nod w g x be Ab) (c : Nat) (has : Bool) (val : Int) (hn3 : n <= 256) :
  Calls Tryz.prog 23 #[.pointer (some ⟨u, 0, none⟩), .bool has, .int .u64 val, .slice A n c, .int .u64 o, mtr m] w (DlPost w S m rest cnt u (jB (x.nd ek) has val n) (tleft o ⟨false, o, x.part, if has = true then val else 0, has⟩ F)) := by
 have ha := h.rows w (Kept.refl _ _)
 have HN := nils_any (c := c) ha (Nat.le_refl _) (fun e he a hea => by
  obtain ⟨g, y, be, Ab, e1, n1⟩ := hk e he
  rw [e1] at hea
  injection hea with hea
  exact ⟨g, y, be, Ab, hea.symm, n1⟩)
 have hy : (l.any fun e => e.2.isNone) = false := by
  rw [Bool.eq_false_iff]
  intro q
  obtain ⟨e, he, h2⟩ := List.any_eq_true.1 q
  obtain ⟨g, _, _, _, e1, _⟩ := hk e he
  rw [e1] at h2
  cases h2
 rw [hy] at HN
 have HN := Lib.hid HN
 have h0 : (o == 0) = false := by
  have : ¬ o = 0 := h.ne
  simpa using this
 obtain ⟨kd, hkd⟩ : ∃ z, kindD (x.nd ek) = z := ⟨_, rfl⟩
 have k0 : (kd == 0) = false := by
  have := kindD_ne (x.nd ek)
  rw [hkd] at this
  simpa using this
 have k1 : (kd == 1) = false := by
  have := kindD_inner (x := x) (ek := ek) hx
  rw [hkd] at this
  simpa using this
 have HK := Lib.hid (fun (V : World) (hV : Below w.heap.size w V) => nkind_any (nd.below hV))
 rw [hkd] at HK
 have HB := Lib.hid (fun (V : World) (hV : Below w.heap.size w V) => brise_any A n c w.heap.size l V (ha.below hV) hV.size)
 have HJ := Lib.hid (fun (V : World) (hV : Below w.heap.size w V) => hasjust_any (nd.below hV) has val A n c w.heap.size l (ha.below hV) hV.size hg)
 have HL := Lib.hid (fun (V : World) (hV : Below w.heap.size w V) => left_any (h.on hV) c has val hn3)
 have HAD := Lib.hid (Up.adj h.up)
 have HMT := Lib.hid (fun (V : World) (hV : Below w.heap.size w V) => h.mtk hV)
 obtain ⟨mp, hmp⟩ : ∃ mp, mtr m = .pointer mp := ⟨_, rfl⟩
 unfold tkV at HL
 rw [hmp] at HL ⊢
 obtain ⟨T, hT⟩ : ∃ T, tleft o ⟨false, o, x.part, if has = true then val else 0, has⟩ F = T := ⟨_, rfl⟩
 rw [hT] at HL ⊢
 obtain ⟨jb, hjb⟩ : ∃ b, jB (x.nd ek) has val n = b := ⟨_, rfl⟩
 rw [hjb] at HJ ⊢
 clear h ha hk hy nd hkd hg hmp hT hjb
 go_enter Tryz.func23, Tryz.ntmps23
 go_wp2_with fail
 (with_reducible refine HN.out.mono ?_)
 rintro e w1 ⟨rfl, b1⟩
 have HK1 := Lib.hid (HK.out w1 b1)
 have B1 := Lib.hid b1
 clear b1 HN HK
 go_wp2_with fail
 (with_reducible refine HK1.out.mono ?_)
 rintro e w2 ⟨rfl, s2⟩
 have B2 := Lib.hid (B1.out.trans (s2.below _))
 have HB2 := Lib.hid (HB.out w2 B2.out)
 clear s2 HK1 HB
 go_wp2_with fail
 (with_reducible refine HB2.out.mono ?_)
 rintro e w3 ⟨b, rfl, hb, b3⟩
 obtain rfl : b = true := hb.2 HAD.out
 have B3 := Lib.hid (B2.out.trans (b3.mono B2.out.size))
 have HJ3 := Lib.hid (HJ.out w3 B3.out)
 clear hb b3 HB2 HJ
 go_wp2_with fail
 (with_reducible refine HJ3.out.mono ?_)
 rintro e w4 ⟨rfl, b4⟩
 have B4 := Lib.hid (B3.out.trans (b4.mono B3.out.size))
 clear b4 HJ3
 cases jb with
 | true =>
  go_wp2_with fail
  go_ret2
  refine ⟨some ⟨u, 0, none⟩, 0, rfl, Kept.of_below B4.out, fun q hq => ?_, Nat.zero_le _, fun _ => ⟨rfl, rfl⟩, fun q => by cases q⟩
  have h1 := (HMT.out _ B4.out q hq).1
  rw [Int.natCast_zero, Int.add_zero]
  exact h1
 | false =>
  have HL4 := Lib.hid (HL.out w4 B4.out)
  clear HL
  go_wp2_with fail
  (with_reducible refine HL4.out.mono ?_)
  rintro e w5 ⟨p', j, rfl, t5, k5, n5, hj⟩
  have HX := Lib.hid (show DlPost w S m rest cnt u false T (.returned (.tuple #[.pointer p', .int .i64 0])) w5 from
   ⟨p', j, rfl, (Kept.of_below B4.out).trans k5, n5, hj, fun q => (by cases q), fun _ => OTre.mono t5 (fun i q => q.imp id (fun z => ⟨Nat.le_trans B4.out.size z.1, z.2⟩))⟩)
  clear t5 k5 n5 hj HL4
  go_wp2_with fail
  go_ret2
  exact HX.out
end
end Go.Proofs.YtcbgieoiefbeiaaGreatDoor
