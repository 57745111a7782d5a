import Derived.Test.YtcbgieoiefbeiaaGreatDoorDelP
import Derived.Test.YtcbgieoiefbeiaaGreatDoorCnLaw
import Derived.Test.YtcbgieoiefbeiaaGreatDoorShape
import Derived.Test.YtcbgieoiefbeiaaGreatDoorDelT
import Derived.Test.YtcbgieoiefbeiaaGreatDoorPutL
namespace Go.Proofs.YtcbgieoiefbeiaaGreatDoor
open Go.RowKit
theorem dalT_del : odels 2 (some alT) [1] = some (⟨true, 2, [1, 2], 6, true⟩, .nil) := by rfl
theorem dalT_sh : oshL (some ((⟨true, 2, [1, 2], 6, true⟩ : Nn), Fo.nil)) = [76, 48, 49, 48, 50, 61, 54] := by
 have d : ∀ n, n < 10 -> Lib.decDigits n = [UInt8.ofNat (48 + n)] := fun n hn => by
  rw [Lib.decDigits]
  simp [hn]
  try omega
 simp only [oshL, shL, begL, valL, endL, Fo.sh, Fo.len, if_true]
 rw [show Int.toNat 6 = 6 from rfl, d 6 (by omega)]
 decide
end Go.Proofs.YtcbgieoiefbeiaaGreatDoor
namespace Go.Proofs.YtcbgieoiefbeiaaGreatDoor
open Go.RowKit Go.Shelf
attribute [local go_sem] Oper.semAt_some
def DelOth (o : Int) (w : World) (S : Nat -> Prop) (t : Option (Nn × Fo)) (l : List UInt8) (e : Ending) (w' : World) : Prop :=
 ∃ p', e = .returned (.tuple #[.pointer p', .bool (firstK (olist t) l).2, .int .i64 0]) /\ OTre w' (fun i => S i \/ (w.heap.size <= i /\ i < w'.heap.size)) (odels o t l) p' /\ Below w.heap.size w w'
theorem OStd.tre {w w1 : World} {o : Int} {S D D1 : Nat -> Prop} {m : Option Nat} {rest : List Value} {cnt : Int} {t : Option (Nn × Fo)} {p : Option Addr} {i : Nat} (h : OStd w w1 o S D m rest cnt t p D1 i) : OTre w1 (fun q => S q \/ ((D q \/ w.heap.size <= q) /\ q < w1.heap.size)) t p := by
 cases t with
 | none => exact h.tow
 | some T =>
  obtain ⟨g, e, h1⟩ := h.tow
  refine ⟨g, e, h1.tre.there.mono (fun q hq => ?_)⟩
  rcases hq.1 with z | z
  ·exact .inl z
  ·exact .inr ⟨h.sub q z, hq.2⟩
set_option maxRecDepth 100000 in
theorem del_other {o : Int} {t : Option (Nn × Fo)} {p A : Option Addr} {n c B : Nat} {l : List UInt8} {S : Nat -> Prop} {w : World} (ho : 1 <= o)
  (ht : OTre w S t p) (hS : ∀ i, S i -> i < w.heap.size) (hno : oall (fun q => q ≠ o) t) (hs : osrt t) (hw : owfB t) (hg : ogood t) (hM : ∀ q ∈ olist t, q.1.length <= 1000000) (hky : Byt w B A n l) (hB : B <= w.heap.size) (hnc : n <= c) (hn : n <= 65535) :
  Calls Tryz.prog 12 #[.pointer p, .slice A n c, .int .u64 o, .pointer none] w (DelOth o w S t l) := by
 have hj : oway o t l + 1 <= 65540 := by
  have h2 := oway_le o t l 0
  have h3 := ogo_len t l 0
  have h4 := hky.1
  omega
 have hp : Pre w o S (fun _ => False) none [] 0 (oway o t l + 1) := ⟨ho, fun i hi => ⟨fun q => q, hS i hi⟩, fun g q => (by cases q), fun i q => (by cases q), by omega⟩
 refine (del_any (m := none) (rest := []) (cnt := 0) (D := fun _ => False) (OTow.of_no ht hno) hs hw hg hM hp (fun V hk => (hky.below ((hk.below (Nat.le_refl _) (fun g q => q.elim (fun z => z.elim) (fun z => by cases z))).mono hB)).more hB) hnc hn).mono ?_
 rintro e w' ⟨p', D', j, rfl, h1, _⟩
 refine ⟨p', rfl, OTre.mono h1.tre (fun i q => q.imp id (fun z => ⟨z.1.elim (fun y => y.elim) id, z.2⟩)), h1.kept.below (Nat.le_refl _) (fun g q => q.elim (fun z => z.elim) (fun z => by cases z))⟩
abbrev anyK (key : List UInt8) (ps : List PV) : Bool := ps.any fun p => decide (p.key = key)
theorem anyK_first (ps : List PV) (key : List UInt8) : (firstK (ps.map kvP) key).2 = anyK key ps := by
 rcases firstK_cases (ps.map kvP) key with ⟨h1, h2⟩ | ⟨p, hp, h1, h2⟩
 ·rw [h2]
  symm
  show anyK key ps = false
  rw [Bool.eq_false_iff]
  intro h
  obtain ⟨q, hq, e⟩ := List.any_eq_true.1 h
  exact h1 (kvP q) (List.mem_map.2 ⟨q, hq, rfl⟩) (of_decide_eq_true e)
 ·rw [h2]
  symm
  obtain ⟨q, hq, rfl⟩ := List.mem_map.1 hp
  exact List.any_eq_true.2 ⟨q, hq, decide_eq_true h1⟩
theorem anyK_succ {ps : List PV} {key : List UInt8} {k : Nat} {p : PV} (h : ps[k]? = some p) : anyK key (ps.take (k + 1)) = (anyK key (ps.take k) || decide (p.key = key)) := by
 rw [List.take_add_one, h]
 simp [anyK]
theorem delS_succ {ps : List PV} {key : List UInt8} {k : Nat} {p : PV} (h : ps[k]? = some p) : delS key (ps.take (k + 1)) = if decide (p.key = key) = true then delS key (ps.take k) else delS key (ps.take k) ++ [p] := by
 rw [List.take_add_one, h]
 unfold delS
 rw [List.filter_append]
 by_cases q : p.key = key <;> simp [q]
theorem delS_lek (key : List UInt8) (ps : List PV) (k : Nat) : (delS key (ps.take k)).length <= k :=
 Nat.le_trans (List.length_filter_le _ _) (by rw [List.length_take]; exact Nat.min_le_left _ _)
set_option maxRecDepth 100000 in
set_option maxHeartbeats 1000000 in
theorem rdelm_any (A A' : Option Addr) (n c n' c' B : Nat) (ps : List PV) (key : List UInt8) (w : World) (ha : Prs w B A n ps) (hB : B <= w.heap.size) (hn : n <= 1000000) (hb : Byt w B A' n' key) :
  Calls Tryz.prog 14 #[.slice A n c, .slice A' n' c'] w fun e w' => ∃ A2 n2 c2, e = .returned (.tuple #[.slice A2 n2 c2, .bool (firstK (ps.map kvP) key).2]) /\ n2 <= c2 /\ MineR w' w.heap.size 53 2 (.slice A2 n2 c2) n2 ((delS key ps).map pvc) /\ Below w.heap.size w w' := by
 have HA := Lib.hid (fun V (h : Below w.heap.size w V) => (ha.more hB).below h)
 have HB := Lib.hid (fun V (h : Below w.heap.size w V) => (hb.more hB).below h)
 have HN := Lib.hid ha.1
 rw [anyK_first]
 clear ha hb
 go_enter Tryz.func14, Tryz.ntmps14
 go_wp2
 go_loopw [6, 7, 8] (fun v b i wr => ∃ k m : Nat, k <= n /\ i = .int .i64 (k : Int) /\ b = .bool (anyK key (ps.take k)) /\ Hid ((delS key (ps.take k)).length = m) /\ Hid (PRow wr w.heap.size 53 v m (delS key (ps.take k))) /\ Hid (Below w.heap.size w wr)) (fun _ _ i _ => n - (intOf i).toNat)
 case atStart => exact ⟨0, 0, Nat.zero_le _, rfl, rfl, Lib.hid rfl, Lib.hid (MineR.nil _ _ _ _), Lib.hid (Below.refl _ _)⟩
 case round =>
  obtain ⟨k, m, hk, rfl, rfl, HM, HR, HBL⟩ := hrel
  obtain ⟨A1, cp1, rfl, hcp⟩ := MineR.slice HR.out
  by_cases h1 : k < n
  ·obtain ⟨ad, p, rfl, hlt, e1, c1, c2, b1⟩ := (HA.out _ HBL.out).at_ h1
   rw [<- add_of_add] at c2
   have c2' : wr.cell? ⟨(ad.add (k * 2)).block, (ad.add (k * 2)).off + 1, none⟩ = some (.int .u64 p.val) := c2
   have HG := rsame_any p.A A' p.n n' p.c c' w.heap.size p.key key wr b1 (HB.out _ HBL.out)
   have HT := delS_succ (key := key) e1
   have HT2 := anyK_succ (key := key) e1
   obtain ⟨bb, hbb⟩ : ∃ b, sameB p.key key = b := ⟨_, rfl⟩
   rw [hbb] at HG
   rw [show decide (p.key = key) = bb from hbb] at HT HT2
   have HT := Lib.hid HT
   have HT2 := Lib.hid HT2
   have HG := Lib.hid HG
   have hml : m <= k := by rw [<- HM.out]; exact delS_lek key ps k
   have HML := Lib.hid hml
   obtain ⟨wb, hwb⟩ : ∃ b, anyK key (ps.take k) = b := ⟨_, rfl⟩
   rw [hwb] at HT2 ⊢
   clear c2 e1 b1 hbb hml hwb
   go_wp2_with fail
   (with_reducible refine HG.out.mono ?_)
   rintro e w1 ⟨rfl, s1⟩
   obtain ⟨q1, rfl⟩ := s1
   have c3 : (wr.drewN q1).cell? (ad.add (k * 2)) = some (.slice p.A p.n p.c) := c1
   have c4 : (wr.drewN q1).cell? ⟨(ad.add (k * 2)).block, (ad.add (k * 2)).off + 1, none⟩ = some (.int .u64 p.val) := c2'
   have HB1 := Lib.hid (HBL.out.trans (Still.below ⟨q1, rfl⟩ _))
   have HR1 := Lib.hid (show PRow (wr.drewN q1) w.heap.size 53 (.slice A1 m cp1) m (delS key (ps.take k)) from MineR.still HR.out ⟨q1, rfl⟩)
   generalize wr.drewN q1 = w1 at c3 c4 HB1 HR1 ⊢
   clear c1 c2' HG HR
   cases bb with
   | true =>
    go_wp2_with fail
    have ht : delS key (ps.take (k + 1)) = delS key (ps.take k) := by rw [HT.out]; simp
    have ht2 : anyK key (ps.take (k + 1)) = true := by rw [HT2.out]; simp
    exact ⟨⟨k + 1, m, by omega, by go_num, by rw [ht2], Lib.hid (by rw [ht]; exact HM.out), by rw [ht]; exact HR1, HB1⟩, by simp [intOf]; omega⟩
   | false =>
    have HX := Lib.hid (fun (o1 : Obj) => MineR.alloc HR1.out o1)
    have HS := Lib.hid (fun (o1 : Obj) => show Below w.heap.size w (w1.alloc o1) from HB1.out.alloc HB1.out.size _)
    have hsz := HB1.out.size
    have HY := Lib.hid (show ∀ (j : Nat) (u : Value), (pvc p)[j]? = some u -> (w1.alloc (.cells #[.slice p.A p.n p.c, .int .u64 p.val] 53)).cell? ((⟨w1.heap.size, 0, none⟩ : Addr).add j) = some u from pair_cells (Blk.new w1 53 #[.slice p.A p.n p.c, .int .u64 p.val]))
    go_wp2_with (at_builtin
                 refine wpList_append_rws (w1.alloc (.cells #[.slice p.A p.n p.c, .int .u64 p.val] 53)) rfl (.tmp 22) (.tmp 27) _ rfl Tryz.underlying22 info_kpair (by rfl) (by decide) w.heap.size (.slice A1 m cp1) m ((delS key (ps.take k)).map pvc) rfl (HX.out _) ⟨w1.heap.size, 0, none⟩ 1 (pvc p) rfl rfl HY.out (pair_one p) (by have := HML.out; omega) (by have := HML.out; unfold maxLen; omega) (by simp; omega) ?_
                 intro v2 w2 hm2 hg2 _
                 have M2 := Lib.hid hm2
                 have C2 := Lib.hid (below_grown (HS.out _) (HX.out _) hg2 (Nat.le_refl _) (by simp; omega))
                 clear hm2 hg2)
    go_wp2
    have ht : delS key (ps.take (k + 1)) = delS key (ps.take k) ++ [p] := by rw [HT.out]; simp
    have ht2 : anyK key (ps.take (k + 1)) = wb := by rw [HT2.out]; simp
    exact ⟨⟨k + 1, m + 1, by omega, by go_num, by rw [ht2], Lib.hid (by rw [ht, List.length_append, HM.out]; rfl), Lib.hid (show MineR _ _ _ 2 _ _ ((delS key (ps.take (k + 1))).map pvc) from by rw [ht, List.map_append]; exact M2.out), C2⟩, by simp [intOf]; omega⟩
  ·obtain rfl : k = n := by omega
   have hps : ps.take k = ps := List.take_of_length_le (by rw [HN.out]; exact Nat.le_refl _)
   have HP := Lib.hid (show MineR wr w.heap.size 53 2 (.slice A1 m cp1) m ((delS key ps).map pvc) from by
    have h2 := HR.out
    rw [hps] at h2
    exact h2)
   rw [hps]
   clear hps
   go_wp2
   go_ret2
   exact ⟨A1, m, cp1, rfl, hcp, HP.out, HBL.out⟩
set_option maxRecDepth 100000 in
theorem rdel_any (A A' : Option Addr) (n c n' c' B : Nat) (ps : List PV) (key : List UInt8) (w : World) (ha : Prs w B A n ps) (hk : Kps w B ps) (hB : B <= w.heap.size) (hn : n <= 1000000) (hb : Byt w B A' n' key) :
  Calls Tryz.prog 14 #[.slice A n c, .slice A' n' c'] w fun e w' => ∃ A2 n2 c2, e = .returned (.tuple #[.slice A2 n2 c2, .bool (firstK (ps.map kvP) key).2]) /\ n2 <= c2 /\ Prs w' w'.heap.size A2 n2 (delS key ps) /\ Below w.heap.size w w' :=
 (rdelm_any A A' n c n' c' B ps key w ha hB hn hb).mono fun _ _ ⟨A2, n2, c2, e, h1, h2, h3⟩ => ⟨A2, n2, c2, e, h1, PRow.prs h2 (fun p hp => (((hk.more hB).below h3).more h3.size) p (delS_sub p hp)), h3⟩
theorem dalT_ok : ook (some ((⟨true, 2, [1, 2], 6, true⟩ : Nn), Fo.nil)) := ⟨⟨by decide, by decide, by decide⟩, trivial⟩
set_option maxRecDepth 100000 in
theorem dalive_any (w : World) (htb : Tb w) : Calls Tryz.prog 9 #[] w fun e w' => e = .returned (.bool true) /\ Below w.heap.size w w' := by
 obtain ⟨W0, hW0⟩ : ∃ W, (((w.alloc (.cells #[.int .u8 1] 5)).alloc (.cells #[.int .u8 1, .int .u8 2] 5)).alloc (.cells #[.slice (some ⟨w.heap.size, 0, none⟩) 1 1, .int .u64 5, .slice (some ⟨w.heap.size + 1, 0, none⟩) 2 2, .int .u64 6] 53)) = W := ⟨_, rfl⟩
 have b0 : Below w.heap.size w W0 := by
  rw [<- hW0]
  exact (((Below.refl _ _).alloc (Nat.le_refl _) _).alloc (by simp) _).alloc (by simp; omega) _
 obtain ⟨ps, hps⟩ : ∃ ps : List PV, [⟨some ⟨w.heap.size, 0, none⟩, 1, 1, [1], 5⟩, ⟨some ⟨w.heap.size + 1, 0, none⟩, 2, 2, [1, 2], 6⟩] = ps := ⟨_, rfl⟩
 have b1 : Byt W0 W0.heap.size (some ⟨w.heap.size, 0, none⟩) 1 [1] := by
  rw [<- hW0]
  exact (((byt_one w 5 (u := 1) rfl).below (((Below.refl _ _).alloc (by simp) _).alloc (by simp) _)).more (by simp))
 have b2 : Byt W0 W0.heap.size (some ⟨w.heap.size + 1, 0, none⟩) 2 [1, 2] := by
  rw [<- hW0]
  have := byt_two (w.alloc (.cells #[.int .u8 1] 5)) 5 1 2 (x := 1) (y := 2) rfl rfl
  rw [World.size_alloc] at this
  exact (this.below ((Below.refl _ _).alloc (by simp) _)).more (by simp)
 have b3 : Blk W0 (w.heap.size + 1 + 1) #[.slice (some ⟨w.heap.size, 0, none⟩) 1 1, .int .u64 5, .slice (some ⟨w.heap.size + 1, 0, none⟩) 2 2, .int .u64 6] := by
  rw [<- hW0]
  have := Blk.new ((w.alloc (.cells #[.int .u8 1] 5)).alloc (.cells #[.int .u8 1, .int .u8 2] 5)) 53 #[.slice (some ⟨w.heap.size, 0, none⟩) 1 1, .int .u64 5, .slice (some ⟨w.heap.size + 1, 0, none⟩) 2 2, .int .u64 6]
  simpa only [World.size_alloc] using this
 have hkps : Kps W0 W0.heap.size ps := fun p hp => by
  subst hps
  simp at hp
  rcases hp with rfl | rfl
  ·exact ⟨b1, Nat.le_refl _⟩
  ·exact ⟨b2, Nat.le_refl _⟩
 have hprs : Prs W0 W0.heap.size (some ⟨w.heap.size + 1 + 1, 0, none⟩) 2 ps := by
  subst hps
  refine ⟨rfl, by unfold maxLen; omega, fun j p hp => (hkps p (List.mem_of_getElem? hp)).1, fun _ => ⟨_, rfl, b3.lt, fun j p hp => ?_⟩⟩
  match j, hp with
  | 0, hp => cases hp; exact ⟨b3.cell 0, b3.cell 1⟩
  | 1, hp => cases hp; exact ⟨b3.cell 2, b3.cell 3⟩
 have hrs : Rsn ps := by
  subst hps
  unfold Rsn
  refine List.pairwise_cons.2 ⟨fun q hq => ?_, List.pairwise_cons.2 ⟨fun q hq => (by cases hq), List.Pairwise.nil⟩⟩
  simp at hq
  subst hq
  show cmpL [1] [1, 2] < 0
  decide
 have hkl : ∀ p ∈ ps, p.key.length <= 300 := fun p hp => by
  subst hps
  simp at hp
  rcases hp with rfl | rfl <;> simp
 have hrel : rel 0 ps = [([1], 5), ([1, 2], 6)] := by subst hps; rfl
 have hT : bTr 1 301 (rel 0 ps) = some alT := by
  unfold bTr
  rw [hrel, if_neg (by simp)]
  rfl
 have H1 := ptree_any (o := 1) (by omega) (some ⟨w.heap.size + 1 + 1, 0, none⟩) 2 2 W0.heap.size ps W0 hprs hkps (Nat.le_refl _) (by omega) hrs hkl
 have hcn := bTr_ocan 1 hrs 301 (fun p hp => by have := hkl p hp; omega)
 rw [hT] at H1 hcn
 have H1 := Lib.hid H1
 have HCN := Lib.hid hcn
 have hM : ∀ q ∈ olist (some alT), q.1.length <= 1000000 := fun q hq => by
  rw [hcn.1.list] at hq
  obtain ⟨p, hp, rfl⟩ := List.mem_map.1 hq
  have := hkl p hp
  show p.key.length <= _
  omega
 have HM := Lib.hid hM
 have hle : 0 < w.heap.size := htb.lt
 have HTB := Lib.hid (fun V (h : Below w.heap.size w V) => htb.below h hle)
 have HLE := Lib.hid hle
 have B0 := Lib.hid b0
 have HW0 := Lib.hid hW0
 clear htb hps b0 b1 b2 b3 hkps hprs hrs hkl hrel hT hcn hM hle hW0
 go_enter Tryz.func9, Tryz.ntmps9
 go_wp2_with fail
 rw [HW0.out]
 (with_reducible refine H1.out.mono ?_)
 rintro e w1 ⟨p1, rfl, t1, k1⟩
 obtain ⟨W2, hW2⟩ : ∃ V, w1.alloc (.cells #[.int .u8 1] 5) = V := ⟨_, rfl⟩
 have bw2 : Below w1.heap.size w1 W2 := by rw [<- hW2]; exact (Below.refl _ _).alloc (Nat.le_refl _) _
 have y2 : Byt W2 W2.heap.size (some ⟨w1.heap.size, 0, none⟩) 1 [1] := by
  rw [<- hW2, World.size_alloc]
  exact byt_one w1 5 (u := 1) rfl
 have t1' : OTre W2 (· < W2.heap.size) (some alT) p1 := OTre.below (OTow.here t1) bw2
 have H2 := Lib.hid (del_other (o := 2) (c := 1) (by decide) t1' (fun i q => q) (oall_mono (fun q e => by rw [e]; decide) HCN.out.2) HCN.out.1.srt HCN.out.1.owf HCN.out.1.good HM.out y2 (Nat.le_refl _) (by decide) (by decide))
 have B2 := Lib.hid ((B0.out.trans (k1.mono B0.out.size)).trans (bw2.mono (Nat.le_trans B0.out.size k1.size)))
 clear t1 k1 bw2 y2 t1' H1
 go_wp2_with fail
 clear hW2
 (with_reducible refine H2.out.mono ?_)
 rintro e w3 ⟨p3, rfl, t3, b3⟩
 rw [show (firstK (olist (some alT)) [1]).2 = true from rfl]
 rw [dalT_del] at t3
 have B3 := Lib.hid (B2.out.trans (b3.mono B2.out.size))
 have T3 := Lib.hid (OTre.here t3)
 have H4 := shape_any _ _ w3.heap.size w3 T3.out dalT_ok (HTB.out w3 B3.out) (Nat.lt_of_lt_of_le HLE.out B3.out.size) (Nat.le_refl _) (by rw [dalT_sh]; decide)
 rw [dalT_sh] at H4
 have H4 := Lib.hid H4
 have hst : ((bstr [76, 48, 49, 48, 50, 61, 54]).toList == [76, 48, 49, 48, 50, 61, 54]) = true := by rw [Lib.toList_data, bstr_toList]; decide
 clear b3 t3 H2
 go_wp2_with fail
 (with_reducible refine H4.out.mono ?_)
 rintro e w4 ⟨rfl, b4⟩
 have B4 := Lib.hid (B3.out.trans (b4.mono B3.out.size))
 clear b4 H4
 go_wp2_with fail
 go_ret
 exact ⟨rfl, B4.out⟩
end Go.Proofs.YtcbgieoiefbeiaaGreatDoor
