import Derived.Test.YtcbgieoiefbeiaaGreatDoorTowW
import Derived.Test.YtcbgieoiefbeiaaGreatDoorCmp
import Derived.Test.YtcbgieoiefbeiaaGreatDoorCanon
import Derived.Test.YtcbgieoiefbeiaaGreatDoorPutP
import Derived.Test.YtcbgieoiefbeiaaGreatDoorRaws
import Derived.Test.YtcbgieoiefbeiaaGreatDoorCanonPt
namespace Go.Proofs.YtcbgieoiefbeiaaGreatDoor
open Go.RowKit
structure Hears (n₀ : Nat) (w : World) (K : FuncId) (cap : Array Value) (all : List (Option (Nat × Int))) (J : List (Nat × Int) -> World -> Prop) : Prop where
 fn : ∀ (xs : Array Value) (V : World), (callFunc K xs).run Tryz.prog V = .ok (.enter K xs) V
 on : ∀ l V V', J l V -> Below n₀ w V -> Below V.heap.size V V' -> J l V'
 call : ∀ pre post a v V, all = pre ++ some (a, v) :: post -> J (pre.filterMap id) V -> Below n₀ w V -> n₀ <= V.heap.size -> Calls Tryz.prog K (#[.int .i64 ((a : Nat) : Int), .int .u64 v] ++ cap) V fun e V' => e = .returned (.tuple #[]) /\ J ((pre ++ [some (a, v)]).filterMap id) V' /\ Below n₀ V V'
def LkS (n₀ : Nat) (w : World) (t : Option (Nn × Fo)) (key : List UInt8) (J : List (Nat × Int) -> World -> Prop) (q : Option Addr) (s a : Nat) (V : World) : Prop :=
 ∃ t' pre, ogo t key 0 = pre ++ ogo t' (key.drop a) a /\ pre.length = s /\ a <= key.length /\ OTre V (· < n₀) t' q /\ J (pre.filterMap id) V /\ Below n₀ w V
theorem Tre.nod {w : World} {S : Nat -> Prop} {x : Nn} {k : Fo} {g : Nat} (h : Tre w S x k g) : ∃ be A ek, Nod w g (x.nd ek) be A /\ k.Is w S ek := by
 obtain ⟨be, A, ek, h1, _, h3⟩ := h
 exact ⟨be, A, ek, h1, h3⟩
theorem otre_on {n₀ : Nat} {w w' : World} {t : Option (Nn × Fo)} {p : Option Addr} (h : OTre w (· < n₀) t p) (hb : Below n₀ w w') : OTre w' (· < n₀) t p := by
 cases t with
 | none => exact h
 | some xk =>
  obtain ⟨g, e, h1⟩ := h
  exact ⟨g, e, h1.below (fun _ q => q) hb⟩
set_option maxRecDepth 100000 in
set_option maxHeartbeats 4000000 in
theorem flook_any (n₀ : Nat) (K : FuncId) (cap : Array Value) (t : Option (Nn × Fo)) (p A : Option Addr) (n c : Nat) (key : List UInt8) (J : List (Nat × Int) -> World -> Prop) (w : World)
  (hn₀ : n₀ <= w.heap.size) (ht : OTre w (· < n₀) t p) (hk : Byt w n₀ A n key) (hnc : n <= c) (hn : n <= 1000000) (hf : Hears n₀ w K cap (ogo t key 0) J) (h0 : J [] w) :
  Calls Tryz.prog 34 #[.pointer p, .slice A n c, .func (.func K) #[] cap] w fun e w' => e = .returned (.int .i64 ((ogo t key 0).length : Int)) /\ J ((ogo t key 0).filterMap id) w' /\ Below n₀ w w' := by
 have hfn := hf.fn
 have HF := Lib.hid hf
 have hl : key.length = n := hk.1
 have hmx := hn
 have hlen : (ogo t key 0).length <= n + 1 := by have := ogo_len t key 0; omega
 have HLN := Lib.hid hlen
 have HL := Lib.hid hl
 have HMX := Lib.hid hmx
 have HN0 := Lib.hid hn₀
 have HB := Lib.hid (fun V (hV : Below n₀ w V) => hk.below hV)
 have HC := Lib.hid hnc
 obtain ⟨tot, htot⟩ : ∃ m, (ogo t key 0).length = m := ⟨_, rfl⟩
 rw [htot] at hlen ⊢
 have HT := Lib.hid htot
 have H0 := Lib.hid (show LkS n₀ w t key J p 0 0 w from ⟨t, [], by simp, rfl, Nat.zero_le _, ht, h0, Below.refl _ _⟩)
 clear hf hk hnc ht h0 hl hlen htot hmx hn hn₀
 go_enter Tryz.func34, Tryz.ntmps34
 go_wp2_with fail
 go_loopw [0, 7, 8] (fun v0 v7 v8 wr => ∃ (q : Option Addr) (s a : Nat), v0 = .pointer q /\ v7 = .int .i64 (s : Int) /\ v8 = .int .i64 (a : Int) /\ Hid (LkS n₀ w t key J q s a wr)) (fun _ v7 _ _ => tot - (intOf v7).toNat)
 case atStart => exact ⟨p, 0, 0, rfl, rfl, rfl, H0⟩
 case round =>
  obtain ⟨q, s, a, rfl, rfl, rfl, HS⟩ := hrel
  clear H0
  obtain ⟨t', pre, h1, h2, h3, h4, h5, h6⟩ := HS.out
  have HJ := Lib.hid h5
  have HW := Lib.hid h6
  have HP := Lib.hid h2
  clear HS h5 h6 h2
  cases t' with
  | none =>
   obtain rfl : q = none := h4
   have hst : tot = s := by rw [<- HT.out, h1, List.length_append, <- HP.out]; rfl
   have HE := Lib.hid (show J ((ogo t key 0).filterMap id) wr from by
    have : ogo t key 0 = pre := by rw [h1]; exact List.append_nil _
    rw [this]
    exact HJ.out)
   have HK := Lib.hid (nkind_nil wr)
   clear h1 h3
   go_wp2_with fail
   (with_reducible refine HK.out.mono ?_)
   rintro e w1 ⟨rfl, rfl⟩
   go_wp2_with fail
   go_ret
   exact ⟨by rw [hst]; rfl, HE.out, HW.out⟩
  | some xk =>
   obtain ⟨x, k⟩ := xk
   obtain ⟨g, rfl, T⟩ := h4
   obtain ⟨be, A', ek, hN, hI⟩ := T.nod
   have HTR := Lib.hid T
   have H1 := Lib.hid (show ogo t key 0 = pre ++ tgo x k (key.drop a) a from h1)
   have hspos := tgo_pos x k (key.drop a) a
   have hs1 : s + 1 <= tot := by
    rw [<- HT.out, h1, List.length_append, HP.out]
    have := List.length_pos_iff.2 hspos
    show s + 1 <= s + (tgo x k (key.drop a) a).length
    omega
   have hsn : s + 1 <= 1000001 := by have := HLN.out; have := HT.out; have := HMX.out; omega
   have HS1 := Lib.hid hs1
   have ew : IntKind.i64.wrap ((s : Int) + 1) = ((s + 1 : Nat) : Int) := by rw [IntKind.wrap_i64]; omega
   have HA3 := Lib.hid (show a <= n from by have := HL.out; omega)
   have hkd := kindD_ne (x.nd ek)
   have HK := nkind_any hN
   obtain ⟨kd, hkd2⟩ : ∃ z, kindD (x.nd ek) = z := ⟨_, rfl⟩
   rw [hkd2] at HK hkd
   have hkne : (kd != 0) = true := by simpa using hkd
   have HK := Lib.hid HK
   clear h1 h3 hkd hkd2 hs1 hsn hspos T hN hI
   go_wp2_with fail
   (with_reducible refine HK.out.mono ?_)
   rintro e w1 ⟨rfl, s1⟩
   have b1 : Below wr.heap.size wr w1 := s1.below _
   have szr : n₀ <= wr.heap.size := Nat.le_trans HN0.out HW.out.size
   have T1 := HTR.out.below (fun _ q => q) (Below.mono b1 szr)
   obtain ⟨be1, A1, ek1, hN1, hI1⟩ := T1.nod
   have W1 := Lib.hid (HW.out.trans (b1.mono szr))
   have J1 := Lib.hid (HF.out.on _ _ _ HJ.out HW.out b1)
   have TR1 := Lib.hid T1
   have HPT := Lib.hid (npart_any hN1)
   clear b1 s1 szr T1 hN1 hI1 HK
   go_wp2_with fail
   (with_reducible refine HPT.out.mono ?_)
   rintro e w2 ⟨A2, c2, rfl, y2, _, b2⟩
   have szr : n₀ <= w1.heap.size := Nat.le_trans HN0.out W1.out.size
   have W2 := Lib.hid (W1.out.trans (b2.mono szr))
   have J2 := Lib.hid (HF.out.on _ _ _ J1.out W1.out b2)
   have T2 := Lib.hid (TR1.out.below (fun _ q => q) (b2.mono szr))
   have Y2 := Lib.hid y2
   have hsl := fun V => slc_from (P := Tryz.prog) Tryz.underlying23 size_u8 A n c a HA3.out V
   have HBG := begins_any (cutA A a c 1) A2 (n - a) x.part.length (c - a) c2 w2.heap.size (key.drop a) x.part w2 (by
    have := (HB.out w2 W2.out).cut_ a n HA3.out (Nat.le_refl _) HC.out
    rw [List.take_of_length_le (by rw [HL.out]; exact Nat.le_refl _)] at this
    exact this.more (Nat.le_trans HN0.out W2.out.size)) y2
   obtain ⟨bb, hbb⟩ : ∃ b, begB (key.drop a) x.part = b := ⟨_, rfl⟩
   rw [hbb] at HBG
   have HBB := Lib.hid hbb
   have HBG := Lib.hid HBG
   obtain ⟨m, hm⟩ : ∃ m, x.part.length = m := ⟨_, rfl⟩
   have HM := Lib.hid hm
   rw [hm] at HBG ⊢
   clear b2 szr y2 hbb HPT J1 TR1 hm hkne
   go_wp2_with fail
   (with_reducible refine HBG.out.mono ?_)
   rintro e w3 ⟨rfl, s3⟩
   have b3 : Below w2.heap.size w2 w3 := s3.below _
   have szr : n₀ <= w2.heap.size := Nat.le_trans HN0.out W2.out.size
   have W3 := Lib.hid (W2.out.trans (b3.mono szr))
   have J3 := Lib.hid (HF.out.on _ _ _ J2.out W2.out b3)
   have T3 := Lib.hid (T2.out.below (fun _ q => q) (b3.mono szr))
   clear b3 s3 szr HBG J2 T2 hsl
   cases bb with
   | false =>
    have hst : tot = s + 1 := by
     rw [<- HT.out, H1.out, List.length_append, HP.out, tgo_no HBB.out]
     rfl
    have HE := Lib.hid (show J ((ogo t key 0).filterMap id) w3 from by
     rw [H1.out, tgo_no HBB.out, List.filterMap_append]
     have := J3.out
     simpa using this)
    go_wp2_with fail
    go_ret
    exact ⟨by rw [hst]; rfl, HE.out, W3.out⟩
   | true =>
    have hmn : a + m <= n := by
     have := beg_len HBB.out
     have h4 := HL.out
     have h5 := HM.out
     have h6 := HA3.out
     rw [List.length_drop] at this
     omega
    obtain ⟨b, hb⟩ : ∃ b, a + m = b := ⟨_, rfl⟩
    rw [hb] at hmn
    have ew2 : IntKind.i64.wrap ((a : Int) + (m : Int)) = (b : Int) := by have := HMX.out; rw [IntKind.wrap_i64]; omega
    have ew3 : IntKind.i64.wrap ((b : Int) + 1) = ((b + 1 : Nat) : Int) := by have := HMX.out; rw [IntKind.wrap_i64]; omega
    have HBE := Lib.hid hb
    have HBN := Lib.hid hmn
    obtain ⟨be3, A3, ek3, hN3, hI3⟩ := T3.out.nod
    have HV := val_any hN3
    obtain ⟨hs, hhs⟩ : ∃ z, x.has = z := ⟨_, rfl⟩
    have HHS := Lib.hid hhs
    rw [show (x.nd ek3).has = hs from hhs] at HV
    have HV := Lib.hid HV
    clear hb hmn hhs hN3 hI3
    go_wp2_with fail
    (with_reducible refine HV.out.mono ?_)
    rintro e w4 ⟨rfl, s4⟩
    have b4 : Below w3.heap.size w3 w4 := s4.below _
    have szr : n₀ <= w3.heap.size := Nat.le_trans HN0.out W3.out.size
    have W4 := Lib.hid (W3.out.trans (b4.mono szr))
    have J4 := Lib.hid (HF.out.on _ _ _ J3.out W3.out b4)
    have T4 := Lib.hid (T3.out.below (fun _ q => q) (b4.mono szr))
    clear b4 s4 szr HV J3 T3
    cases hs with
    | true =>
     have HTL := Lib.hid (show x.tell a = some (b, x.val) from by unfold Nn.tell; rw [HHS.out, HM.out, HBE.out]; rfl)
     have HCB := Lib.hid (HF.out.call pre (tgo x k (key.drop a) a).tail b x.val w4 (by
      rw [H1.out]
      congr 1
      rw [<- HTL.out]
      unfold tgo
      rw [if_pos HBB.out]
      rfl) J4.out W4.out (Nat.le_trans HN0.out W4.out.size))
     go_wp2_with fail
     (with_reducible refine HCB.out.mono ?_)
     rintro e w5 ⟨rfl, j5, b5⟩
     have W5 := Lib.hid (W4.out.trans b5)
     have T5 := Lib.hid (T4.out.below (fun _ q => q) b5)
     have J5 := Lib.hid (show J ((pre ++ [x.tell a]).filterMap id) w5 from by rw [HTL.out]; exact j5)
     clear b5 j5 HCB J4 T4
     by_cases hbn : b = n
     ·subst hbn
      have hdl : (key.drop a).length = x.part.length := by
       have h4 := HL.out
       have h5 := HM.out
       have h6 := HBE.out
       rw [List.length_drop]
       omega
      have hst : tot = s + 1 := by
       rw [<- HT.out, H1.out, List.length_append, HP.out, tgo_end HBB.out hdl]
       rfl
      have HE := Lib.hid (show J ((ogo t key 0).filterMap id) w5 from by
       rw [H1.out, tgo_end HBB.out hdl]
       exact J5.out)
      clear hdl
      go_wp2_with fail
      go_ret
      exact ⟨by rw [hst]; rfl, HE.out, W5.out⟩
     ·have hbl : b < n := by have := HBN.out; omega
      have hne : ((b : Int) == (n : Int)) = false := by
       rw [beq_eq_false_iff_ne]
       omega
      obtain ⟨ad, u, rfl, _, e1, c1⟩ := (HB.out w5 W5.out).at_ hbl
      have hdr : (key.drop a).drop x.part.length = u :: key.drop (b + 1) := by
       have h5 := HM.out
       have h6 := HBE.out
       rw [List.drop_drop, show a + x.part.length = b by omega]
       obtain ⟨hq, e2⟩ := List.getElem?_eq_some_iff.1 e1
       rw [List.drop_eq_getElem_cons hq, e2]
      obtain ⟨be5, A5, ek5, hN5, hI5⟩ := T5.out.nod
      have HKD := Lib.hid (nkid_any hN5 u (u.toNat : Int) rfl)
      have hup := hN5.up
      have OT := Lib.hid (hI5.kid_ u hup)
      have HGO := Lib.hid (show ogo t key 0 = (pre ++ [x.tell a]) ++ ogo (k.kid u) (key.drop (b + 1)) (b + 1) from by
       have h5 := HM.out
       have h6 := HBE.out
       rw [H1.out, tgo_on HBB.out hdr, List.append_assoc, show a + x.part.length + 1 = b + 1 by omega]
       rfl)
      clear hdr e1 hup hN5 hI5
      go_wp2_with fail
      (with_reducible refine HKD.out.mono ?_)
      rintro e w6 ⟨rfl, s6⟩
      have b6 : Below w5.heap.size w5 w6 := s6.below _
      have szr : n₀ <= w5.heap.size := Nat.le_trans HN0.out W5.out.size
      have OT6 := OT.out
      have FIN := Lib.hid (show LkS n₀ w t key J (getE ek5 u.toNat) (s + 1) (b + 1) w6 from ⟨k.kid u, pre ++ [x.tell a], HGO.out, by rw [List.length_append, HP.out]; rfl, by have := HL.out; omega,
       otre_on OT6 (b6.mono szr), HF.out.on _ _ _ J5.out W5.out b6, W5.out.trans (b6.mono szr)⟩)
      clear b6 s6 szr OT6 OT HKD
      go_wp2_with fail
      exact ⟨⟨_, s + 1, b + 1, rfl, rfl, rfl, FIN⟩, by have := HS1.out; simp [intOf]; omega⟩
    | false =>
     have HTL := Lib.hid (show x.tell a = none from by unfold Nn.tell; rw [HHS.out]; rfl)
     obtain ⟨w5, hw5⟩ : ∃ V, V = w4 := ⟨_, rfl⟩
     have W5 := Lib.hid (show Below n₀ w w5 from by rw [hw5]; exact W4.out)
     have T5 := Lib.hid (show Tre w5 (· < n₀) x k g from by rw [hw5]; exact T4.out)
     have J5 := Lib.hid (show J ((pre ++ [x.tell a]).filterMap id) w5 from by
      rw [hw5, HTL.out, List.filterMap_append]
      have := J4.out
      simpa using this)
     rw [<- hw5]
     clear hw5 J4 T4
     by_cases hbn : b = n
     ·subst hbn
      have hdl : (key.drop a).length = x.part.length := by
       have h4 := HL.out
       have h5 := HM.out
       have h6 := HBE.out
       rw [List.length_drop]
       omega
      have hst : tot = s + 1 := by
       rw [<- HT.out, H1.out, List.length_append, HP.out, tgo_end HBB.out hdl]
       rfl
      have HE := Lib.hid (show J ((ogo t key 0).filterMap id) w5 from by
       rw [H1.out, tgo_end HBB.out hdl]
       exact J5.out)
      clear hdl
      go_wp2_with fail
      go_ret
      exact ⟨by rw [hst]; rfl, HE.out, W5.out⟩
     ·have hbl : b < n := by have := HBN.out; omega
      have hne : ((b : Int) == (n : Int)) = false := by
       rw [beq_eq_false_iff_ne]
       omega
      obtain ⟨ad, u, rfl, _, e1, c1⟩ := (HB.out w5 W5.out).at_ hbl
      have hdr : (key.drop a).drop x.part.length = u :: key.drop (b + 1) := by
       have h5 := HM.out
       have h6 := HBE.out
       rw [List.drop_drop, show a + x.part.length = b by omega]
       obtain ⟨hq, e2⟩ := List.getElem?_eq_some_iff.1 e1
       rw [List.drop_eq_getElem_cons hq, e2]
      obtain ⟨be5, A5, ek5, hN5, hI5⟩ := T5.out.nod
      have HKD := Lib.hid (nkid_any hN5 u (u.toNat : Int) rfl)
      have hup := hN5.up
      have OT := Lib.hid (hI5.kid_ u hup)
      have HGO := Lib.hid (show ogo t key 0 = (pre ++ [x.tell a]) ++ ogo (k.kid u) (key.drop (b + 1)) (b + 1) from by
       have h5 := HM.out
       have h6 := HBE.out
       rw [H1.out, tgo_on HBB.out hdr, List.append_assoc, show a + x.part.length + 1 = b + 1 by omega]
       rfl)
      clear hdr e1 hup hN5 hI5
      go_wp2_with fail
      (with_reducible refine HKD.out.mono ?_)
      rintro e w6 ⟨rfl, s6⟩
      have b6 : Below w5.heap.size w5 w6 := s6.below _
      have szr : n₀ <= w5.heap.size := Nat.le_trans HN0.out W5.out.size
      have OT6 := OT.out
      have FIN := Lib.hid (show LkS n₀ w t key J (getE ek5 u.toNat) (s + 1) (b + 1) w6 from ⟨k.kid u, pre ++ [x.tell a], HGO.out, by rw [List.length_append, HP.out]; rfl, by have := HL.out; omega,
       otre_on OT6 (b6.mono szr), HF.out.on _ _ _ J5.out W5.out b6, W5.out.trans (b6.mono szr)⟩)
      clear b6 s6 szr OT6 OT HKD
      go_wp2_with fail
      exact ⟨⟨_, s + 1, b + 1, rfl, rfl, rfl, FIN⟩, by have := HS1.out; simp [intOf]; omega⟩
end Go.Proofs.YtcbgieoiefbeiaaGreatDoor
namespace Go.Proofs.YtcbgieoiefbeiaaGreatDoor
open Go.RowKit
def getJ (b : Nat) (A : Option Addr) (n c : Nat) (l : List (Nat × Int)) (V : World) : Prop :=
 Blk V b #[.slice A n c] /\ Blk V (b + 1) #[.int .u64 (getF l n).1] /\ Blk V (b + 2) #[.bool (getF l n).2]
theorem getF_snoc (l : List (Nat × Int)) (a : Nat) (v : Int) (n : Nat) : getF (l ++ [(a, v)]) n = if a = n then (v, true) else getF l n := by
 unfold getF
 rw [List.foldl_append]
 rfl
theorem getJ.kept {b : Nat} {A : Option Addr} {n c : Nat} {l : List (Nat × Int)} {V V' : World} (h : getJ b A n c l V) (hb : Below V.heap.size V V') : getJ b A n c l V' :=
 ⟨h.1.below hb h.1.lt, h.2.1.below hb h.2.1.lt, h.2.2.below hb h.2.2.lt⟩
set_option maxRecDepth 100000 in
theorem fget1_any {b : Nat} {A : Option Addr} {n c : Nat} {l : List (Nat × Int)} {V : World} (h : getJ b A n c l V) (a : Nat) (v : Int) :
  Calls Tryz.prog 37 #[.int .i64 (a : Int), .int .u64 v, .pointer (some ⟨b, 0, none⟩), .pointer (some ⟨b + 1, 0, none⟩), .pointer (some ⟨b + 2, 0, none⟩)] V fun e V' => e = .returned (.tuple #[]) /\ getJ b A n c (l ++ [(a, v)]) V' /\ Below b V V' := by
 obtain ⟨h1, h2, h3⟩ := h
 have c1 := h1.cell 0
 have HV := Lib.hid (And.intro h1 (And.intro h2 h3))
 obtain ⟨g1, hg1⟩ : ∃ x, (getF l n).1 = x := ⟨_, rfl⟩
 obtain ⟨g2, hg2⟩ : ∃ x, (getF l n).2 = x := ⟨_, rfl⟩
 rw [hg1, hg2] at HV
 rw [hg1] at h2
 rw [hg2] at h3
 have c2 := h2.cell 0
 have c3 := h3.cell 0
 have z2 := h2.fz 0
 have z3 := h3.fz 0
 have HG := Lib.hid (And.intro hg1 hg2)
 clear h1 h2 h3 hg1 hg2
 go_enter Tryz.func37, Tryz.ntmps37
 by_cases ha : a = n
 ·have he : ((a : Int) == (n : Int)) = true := by rw [ha]; exact beq_self_eq_true _
  have hn3 : (⟨b + 1, 0, none⟩ : Addr) ≠ ⟨b + 2, 0, none⟩ := fun e => by injection e with e; omega
  have HA := Lib.hid ha
  clear ha
  go_wp2
  go_end0
  obtain ⟨q1, q2, q3⟩ := HV.out
  have k1 : Kept (· = b + 1) V _ := Kept.set_ V ⟨b + 1, 0, none⟩ (.int .u64 v) rfl
  have p2 := q2.set_ 0 (.int .u64 v)
  have p1 := k1.blk q1 (fun e => by omega)
  have p3 := k1.blk q3 (fun e => by omega)
  have k2 : Kept (· = b + 2) _ _ := Kept.set_ (V.setCell ⟨b + 1, 0, none⟩ (.int .u64 v)) ⟨b + 2, 0, none⟩ (.bool true) rfl
  have r3 := p3.set_ 0 (.bool true)
  have r1 := k2.blk p1 (fun e => by omega)
  have r2 := k2.blk p2 (fun e => by omega)
  refine ⟨rfl, ?_, (k1.below (by have := q1.lt; omega) (fun i e => by omega)).trans (k2.below (by have := p1.lt; omega) (fun i e => by omega))⟩
  unfold getJ
  rw [getF_snoc, if_pos HA.out]
  exact ⟨r1, by simpa using r2, by simpa using r3⟩
 ·have he : ((a : Int) == (n : Int)) = false := by rw [beq_eq_false_iff_ne]; omega
  have HA := Lib.hid ha
  clear ha
  go_wp2
  go_end0
  refine ⟨rfl, ?_, Below.refl _ _⟩
  unfold getJ
  rw [getF_snoc, if_neg HA.out, HG.out.1, HG.out.2]
  exact HV.out
set_option maxRecDepth 100000 in
set_option maxHeartbeats 1000000 in
theorem fget_any (t : Option (Nn × Fo)) (p A : Option Addr) (n c : Nat) (key : List UInt8) (w : World) (ht : OTre w (· < w.heap.size) t p) (hk : Byt w w.heap.size A n key) (hnc : n <= c) (hn : n <= 1000000) :
  Calls Tryz.prog 19 #[.pointer p, .slice A n c] w fun e w' => e = .returned (.tuple #[.int .u64 (getF ((ogo t key 0).filterMap id) n).1, .bool (getF ((ogo t key 0).filterMap id) n).2]) /\ Below w.heap.size w w' := by
 obtain ⟨W, hW⟩ : ∃ W, ((w.alloc (.cells #[.slice A n c] 23)).alloc (.cells #[.int .u64 0] 24)).alloc (.cells #[.bool false] 4) = W := ⟨_, rfl⟩
 have hb : Below w.heap.size w W := by rw [<- hW]; exact (((Below.refl _ _).alloc (Nat.le_refl _) _).alloc (by simp) _).alloc (by simp; omega) _
 have hj : getJ w.heap.size A n c [] W := by
  rw [<- hW]
  refine ⟨((Blk.new w _ _).alloc _).alloc _, ?_, ?_⟩
  ·have := Blk.new (w.alloc (.cells #[.slice A n c] 23)) 24 #[.int .u64 0]
   rw [World.size_alloc] at this
   exact this.alloc _
  ·have := Blk.new ((w.alloc (.cells #[.slice A n c] 23)).alloc (.cells #[.int .u64 0] 24)) 4 #[.bool false]
   simp only [World.size_alloc] at this
   exact this
 have hsz : W.heap.size = w.heap.size + 3 := by rw [<- hW]; simp
 have hears : Hears w.heap.size W 37 #[.pointer (some ⟨w.heap.size, 0, none⟩), .pointer (some ⟨w.heap.size + 1, 0, none⟩), .pointer (some ⟨w.heap.size + 2, 0, none⟩)] (ogo t key 0) (getJ w.heap.size A n c) :=
  ⟨fun xs V => Tryz.call37 xs V, fun l V V' h _ hV => h.kept hV, fun pre post a v V _ h _ _ => by
   rw [List.filterMap_append]
   exact fget1_any h a v⟩
 have hlook := flook_any w.heap.size _ _ t p A n c key (getJ w.heap.size A n c) W (by omega) (otre_on ht hb) (hk.below hb) hnc hn hears hj
 obtain ⟨L, hL⟩ : ∃ L, (ogo t key 0).filterMap id = L := ⟨_, rfl⟩
 rw [hL] at hlook ⊢
 have HL := Lib.hid hlook
 have HW := Lib.hid hW
 have HB := Lib.hid hb
 clear hears hj hb ht hk hW hlook hL
 go_enter Tryz.func19, Tryz.ntmps19
 go_wp2_with fail
 rw [HW.out]
 (with_reducible refine HL.out.mono ?_)
 rintro e w1 ⟨rfl, ⟨_, j2, j3⟩, b1⟩
 have c2 := j2.cell 0
 have c3 := j3.cell 0
 have B1 := Lib.hid (HB.out.trans b1)
 clear j2 j3 b1 HL
 go_wp2_with fail
 go_quiet (fail)
 go_wp2
 go_ret2
 exact ⟨rfl, B1.out.trans (Still.below (Still.drewN _ _) _)⟩
set_option maxRecDepth 100000 in
theorem fhas_any (t : Option (Nn × Fo)) (p A : Option Addr) (n c : Nat) (key : List UInt8) (w : World) (ht : OTre w (· < w.heap.size) t p) (hk : Byt w w.heap.size A n key) (hnc : n <= c) (hn : n <= 1000000) :
  Calls Tryz.prog 18 #[.pointer p, .slice A n c] w fun e w' => e = .returned (.bool (getF ((ogo t key 0).filterMap id) n).2) /\ Below w.heap.size w w' := by
 have HG := Lib.hid (fget_any t p A n c key w ht hk hnc hn)
 clear ht hk
 go_enter Tryz.func18, Tryz.ntmps18
 go_wp2_with fail
 (with_reducible refine HG.out.mono ?_)
 rintro e w1 ⟨rfl, b1⟩
 have B1 := Lib.hid b1
 clear b1 HG
 go_wp2
 go_ret
 exact ⟨rfl, B1.out⟩
set_option maxRecDepth 100000 in
theorem fsteps1_any (a : Nat) (v : Int) (V : World) : Calls Tryz.prog 35 #[.int .i64 (a : Int), .int .u64 v] V fun e V' => e = .returned (.tuple #[]) /\ V' = V := by
 go_enter Tryz.func35, Tryz.ntmps35
 go_wp2
 go_end0
 exact ⟨rfl, rfl⟩
set_option maxRecDepth 100000 in
theorem fsteps_any (t : Option (Nn × Fo)) (p A : Option Addr) (n c : Nat) (key : List UInt8) (w : World) (ht : OTre w (· < w.heap.size) t p) (hk : Byt w w.heap.size A n key) (hnc : n <= c) (hn : n <= 1000000) :
  Calls Tryz.prog 16 #[.pointer p, .slice A n c] w fun e w' => e = .returned (.int .i64 ((ogo t key 0).length : Int)) /\ Below w.heap.size w w' := by
 have hears : Hears w.heap.size w 35 #[] (ogo t key 0) (fun _ _ => True) :=
  ⟨fun xs V => Tryz.call35 xs V, fun l V V' h _ hV => trivial, fun pre post a v V _ h _ _ => by
   refine (fsteps1_any a v V).mono ?_
   rintro e V' ⟨rfl, rfl⟩
   exact ⟨rfl, trivial, Below.refl _ _⟩⟩
 have HL := Lib.hid (flook_any w.heap.size _ _ t p A n c key (fun _ _ => True) w (Nat.le_refl _) ht hk hnc hn hears trivial)
 clear hears ht hk
 go_enter Tryz.func16, Tryz.ntmps16
 go_wp2_with fail
 (with_reducible refine HL.out.mono ?_)
 rintro e w1 ⟨rfl, _, b1⟩
 have B1 := Lib.hid b1
 clear b1 HL
 go_wp2
 go_ret
 exact ⟨rfl, B1.out⟩
end Go.Proofs.YtcbgieoiefbeiaaGreatDoor
namespace Go.Proofs.YtcbgieoiefbeiaaGreatDoor
open Go.RowKit
theorem Fo.goes_by (o : Int) : ∀ (f : Fo) (c : UInt8) (l : List UInt8) (a : Nat), (f.by o).goes c l a = f.goes c l a
 | .nil, _, _, _ => rfl
 | .cons b x k r, c, l, a => by
  rw [Fo.by, Fo.goes, Fo.goes, Fo.goes_by o r]
  show (if b = c then (if begB l x.part = true then x.tell a :: _ else _) else _) = _
  cases hd : l.drop x.part.length with
  | nil =>
   have : l.drop (x.by o).part.length = [] := hd
   rw [this]
  | cons c' l' =>
   have : l.drop (x.by o).part.length = c' :: l' := hd
   rw [this]
   show (if b = c then (if begB l x.part = true then x.tell a :: (k.by o).goes c' l' (a + x.part.length + 1) else _) else _) = _
   rw [Fo.goes_by o k]
theorem ogo_by (o : Int) (t : Option (Nn × Fo)) (l : List UInt8) (a : Nat) : ogo (t.map (byT o)) l a = ogo t l a := by
 cases t with
 | none => rfl
 | some t =>
  have := Fo.goes_by o (.cons 0 t.1 t.2 .nil) 0 l a
  rw [Fo.by, Fo.goes_cons, Fo.goes_cons, if_pos rfl, if_pos rfl] at this
  exact this
theorem olist_by (o : Int) (t : Option (Nn × Fo)) : olist (t.map (byT o)) = olist t := by
 cases t with
 | none => rfl
 | some t => exact by_tlist o t.1 t.2 []
def owfB (t : Option (Nn × Fo)) : Prop := owf (t.map (byT 1))
theorem Can.owf {ps : List PV} {T : Nn × Fo} (h : Can ps T) : owfB (some T) := h.wf
theorem owfB.rise {t : Option (Nn × Fo)} (h : owfB t) : Rise (olist t) := by
 have := olist_rise h
 rwa [olist_by] at this
theorem owfB.get {t : Option (Nn × Fo)} (h : owfB t) (key : List UInt8) : getF ((ogo t key 0).filterMap id) key.length = firstK (olist t) key := by
 have h1 := ogo_begs h key 0
 rw [ogo_by, olist_by] at h1
 rw [h1, getK_begs, first_get h.rise]
theorem firstK_yes {L : List KV} (h : Rise L) {l : List UInt8} {v : Int} : firstK L l = (v, true) ↔ (l, v) ∈ L := by
 constructor
 ·intro e
  rcases firstK_cases L l with ⟨_, q⟩ | ⟨p, hp, rfl, q⟩
  ·rw [q] at e
   injection e with _ e
   cases e
  ·rw [q] at e
   injection e with e _
   subst e
   exact hp
 ·intro hm
  rcases firstK_cases L l with ⟨q, _⟩ | ⟨p, hp, e, q⟩
  ·exact absurd rfl (q _ hm)
  ·have := rise_one h hp hm e
   subst this
   exact q
theorem firstK_no {L : List KV} {l : List UInt8} {v : Int} (e : firstK L l = (v, false)) : ∀ p ∈ L, p.1 ≠ l := by
 rcases firstK_cases L l with ⟨q, _⟩ | ⟨p, _, _, q⟩
 ·exact q
 ·rw [q] at e
  injection e with _ e
  cases e
set_option maxRecDepth 100000 in
theorem tget_any {t : Option (Nn × Fo)} (h : owfB t) {p A : Option Addr} {n c : Nat} {key : List UInt8} {w : World} {B : Nat} (ht : OTre w (· < w.heap.size) t p) (ha : Byt w B A n key) (hB : B <= w.heap.size) (hnc : n <= c) (hn : n <= 1000000) {g1 : Int} {g2 : Bool} (hg : firstK (olist t) key = (g1, g2)) :
  Calls Tryz.prog 19 #[.pointer p, .slice A n c] w fun e w' => e = .returned (.tuple #[.int .u64 g1, .bool g2]) /\ Below w.heap.size w w' := by
 have h1 := fget_any t p A n c key w ht (ha.more hB) hnc hn
 have h2 := h.get key
 rw [ha.1, hg] at h2
 rwa [h2] at h1
set_option maxRecDepth 100000 in
theorem thas_any {t : Option (Nn × Fo)} (h : owfB t) {p A : Option Addr} {n c : Nat} {key : List UInt8} {w : World} {B : Nat} (ht : OTre w (· < w.heap.size) t p) (ha : Byt w B A n key) (hB : B <= w.heap.size) (hnc : n <= c) (hn : n <= 1000000) {g1 : Int} {g2 : Bool} (hg : firstK (olist t) key = (g1, g2)) :
  Calls Tryz.prog 18 #[.pointer p, .slice A n c] w fun e w' => e = .returned (.bool g2) /\ Below w.heap.size w w' := by
 have h1 := fhas_any t p A n c key w ht (ha.more hB) hnc hn
 have h2 := h.get key
 rw [ha.1, hg] at h2
 rwa [h2] at h1
theorem bTr_can {ps : List PV} (o : Int) (hr : Rsn ps) (hne : ps ≠ []) (f : Nat) (hf : ∀ p ∈ ps, p.key.length < f) : Can ps (cT o f (ps.map kvP)) := by
 have hL : rel 0 ps = ps.map kvP := rel_zero ps
 have h1 := can_of o hr hne hf
 rw [hL] at h1
 have hM : ps.map kvP ≠ [] := by simpa using hne
 have hlen : ∀ p ∈ ps.map kvP, p.1.length < f := fun p hp => by
  obtain ⟨q, hq, rfl⟩ := List.mem_map.1 hp
  exact hf q hq
 have hR := rsn_rel hr
 rw [hL] at hR
 obtain ⟨w1, w2⟩ := cT_wf o f (ps.map kvP) hM hR hlen
 exact ⟨wfN_by w1, wf_by w2, h1.good, h1.list⟩
theorem bTr_all {ps : List PV} (o : Int) (hr : Rsn ps) (hne : ps ≠ []) (f : Nat) (hf : ∀ p ∈ ps, p.key.length < f) : allT (fun q => q = o) (cT o f (ps.map kvP)) := by
 have hL : rel 0 ps = ps.map kvP := rel_zero ps
 have hM : ps.map kvP ≠ [] := by simpa using hne
 have hlen : ∀ p ∈ ps.map kvP, p.1.length < f := fun p hp => by
  obtain ⟨q, hq, rfl⟩ := List.mem_map.1 hp
  exact hf q hq
 have hR := rsn_rel hr
 rw [hL] at hR
 obtain ⟨w1, w2⟩ := cT_wf o f (ps.map kvP) hM hR hlen
 exact ⟨w1.2.2, Fo.wf_all w2⟩
theorem OCan.owf {ps : List PV} {t : Option (Nn × Fo)} (h : OCan ps t) : owfB t := by
 cases t with
 | none => trivial
 | some T => exact Can.owf h
theorem bTr_ocan {ps : List PV} (o : Int) (hr : Rsn ps) (f : Nat) (hf : ∀ p ∈ ps, p.key.length < f) : OCan ps (bTr o f (rel 0 ps)) /\ oall (fun q => q = o) (bTr o f (rel 0 ps)) := by
 have hL : rel 0 ps = ps.map kvP := rel_zero ps
 by_cases hne : ps = []
 ·subst hne
  exact ⟨rfl, trivial⟩
 ·have hne2 : rel 0 ps ≠ [] := by rw [hL]; simpa using hne
  unfold bTr
  rw [if_neg hne2, hL]
  exact ⟨bTr_can o hr hne f hf, bTr_all o hr hne f hf⟩
end Go.Proofs.YtcbgieoiefbeiaaGreatDoor
namespace Go.Proofs.YtcbgieoiefbeiaaGreatDoor
open Go.RowKit
def Fo.srt : Fo -> Prop
 | .nil => True
 | .cons b x k r => r.above b /\ (x.leaf = true -> k = .nil) /\ k.srt /\ r.srt
def osrt : Option (Nn × Fo) -> Prop
 | none => True
 | some t => (t.1.leaf = true -> t.2 = .nil) /\ t.2.srt
theorem nil_by {o : Int} {k : Fo} (h : k.by o = .nil) : k = .nil := by
 cases k with
 | nil => rfl
 | cons _ _ _ _ => cases h
theorem Fo.srt_by {o o' : Int} : ∀ {f : Fo}, (f.by o).wf o' -> f.srt
 | .nil, _ => trivial
 | .cons b x k r, ⟨h1, h2, h3, h4⟩ => ⟨by
  cases r with
  | nil => trivial
  | cons _ _ _ _ => exact h1, fun q => nil_by (h2.1 q).1, Fo.srt_by h3, Fo.srt_by h4⟩
theorem Fo.kid_low : ∀ {f : Fo} {b c : UInt8}, f.srt -> f.above b -> c.toNat <= b.toNat -> f.kid c = none
 | .nil, _, _, _, _, _ => rfl
 | .cons b' x k r, b, c, ⟨h1, _, _, h4⟩, ha, hc => by
  have ha' : b.toNat < b'.toNat := ha
  have hn : b' ≠ c := fun e => by subst e; omega
  rw [Fo.kid, if_neg hn]
  exact Fo.kid_low h4 h1 (by omega)
theorem Fo.srt_kid : ∀ {f : Fo} {c : UInt8}, f.srt -> osrt (f.kid c)
 | .nil, _, _ => trivial
 | .cons b x k r, c, ⟨_, h1, h2, h3⟩ => by
  rw [Fo.kid]
  split
  ·exact ⟨h1, h2⟩
  ·exact Fo.srt_kid h3
theorem Fo.puts_srt (o v : Int) : ∀ {f : Fo}, f.srt -> ∀ (c : UInt8) (l : List UInt8), f.puts o v c l = f.set c (oput o v (f.kid c) l).1 (oput o v (f.kid c) l).2
 | .nil, _, c, l => rfl
 | .cons b x k r, ⟨h1, _, _, h4⟩, c, l => by
  rw [Fo.puts, Fo.set, Fo.kid]
  by_cases e : c = b
  ·subst e
   rw [if_pos rfl, if_pos rfl, if_pos rfl]
   rfl
  ·have e' : b ≠ c := fun q => e q.symm
   rw [if_neg e, if_neg e, if_neg e']
   by_cases h : c.toNat < b.toNat
   ·rw [if_pos h, if_pos h, Fo.kid_low h4 h1 (Nat.le_of_lt h)]
    rfl
   ·rw [if_neg h, if_neg h, Fo.puts_srt o v h4 c l]
def Fo.hits : Fo -> UInt8 -> List UInt8 -> Bool
 | .nil, _, _ => false
 | .cons b x k r, c, l =>
  if b = c then (if begB l x.part = true then (match l.drop x.part.length with
   | [] => true
   | c' :: l' => k.hits c' l') else false)
  else r.hits c l
def thit (x : Nn) (k : Fo) (l : List UInt8) : Bool := if begB l x.part = true then (match l.drop x.part.length with
 | [] => true
 | c' :: l' => k.hits c' l') else false
def ohit : Option (Nn × Fo) -> List UInt8 -> Bool
 | none, _ => false
 | some t, l => thit t.1 t.2 l
theorem Fo.hits_kid : ∀ (f : Fo) (c : UInt8) (l : List UInt8), f.hits c l = ohit (f.kid c) l
 | .nil, _, _ => rfl
 | .cons b x k r, c, l => by
  rw [Fo.hits, Fo.kid]
  split
  ·rfl
  ·exact Fo.hits_kid r c l
section
variable {o v : Int} {x : Nn} {k : Fo} {l : List UInt8}
theorem thit_no (h : begB l x.part = false) : thit x k l = false := by
 unfold thit
 rw [h]
 rfl
theorem thit_on {l' : List UInt8} {c : UInt8} (h : begB l x.part = true) (hl : l.drop x.part.length = c :: l') : thit x k l = ohit (k.kid c) l' := by
 unfold thit
 rw [if_pos h, hl, <- Fo.hits_kid]
theorem tput_goes' (hk : k.srt) {d : UInt8} {lr : List UInt8} (h1 : x.part.drop (lcp l x.part) = []) (h2 : l.drop (lcp l x.part) = d :: lr) (hl : x.leaf = false) : tput o v x k l = (⟨false, o, x.part, x.val, x.has⟩, k.set d (oput o v (k.kid d) lr).1 (oput o v (k.kid d) lr).2) := by
 unfold tput tputW
 rw [h1, h2, <- Fo.puts_srt o v hk]
 exact if_neg (by rw [hl]; exact Bool.false_ne_true)
end
theorem part_split (l m : List UInt8) : m = l.take (lcp l m) ++ m.drop (lcp l m) := lcp_take (p := l) (u := m) (Nat.le_refl _)
theorem Can.srt {ps : List PV} {T : Nn × Fo} (h : Can ps T) : osrt (some T) := ⟨fun q => nil_by (h.top.1 q).1, Fo.srt_by h.wf⟩
theorem OCan.srt {ps : List PV} {t : Option (Nn × Fo)} (h : OCan ps t) : osrt t := by
 cases t with
 | none => trivial
 | some T => exact Can.srt h
end Go.Proofs.YtcbgieoiefbeiaaGreatDoor
