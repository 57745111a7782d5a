/-
  Proved here: pairs put one behind the other by one owner, and each by an owner of its own, make the canonical tree of them, of each key the last value, and of those by owners of their own each tree on the way is what it was; nothing that came in is turned. The one condition is the card's own: the table of the powers of ten lies as the program's library lays it (tied).
-/
import Derived.Test.YtikmcmoegigfhaaGreatDoorPutL
import Derived.Test.YtikmcmoegigfhaaGreatDoorCanonQ
import Derived.Test.YtikmcmoegigfhaaGreatDoorPowTab
import Derived.Test.YtikmcmoegigfhaaGreatDoorRow
import Derived.Test.YtikmcmoegigfhaaGreatDoorTie
import Derived.Test.YtikmcmoegigfhaaGreatDoorCards
import Derived.SevenTiedAt
namespace Go.Proofs.YtikmcmoegigfhaaGreatDoor.putOrder
open Go.ChangeShapes Go.WideShapes Go.ChangeAt Go.RowKit

abbrev fO : Nat → Int := fun _ => 1
abbrev fM : Nat → Int := fun i => (i : Int) + 2
theorem kept_grown {w w' : World} {row : Option Nat} (h : w.grownBy w' row) : Kept (fun i => row = some i) w w' := ⟨h.os, h.tape, h.output, h.size, fun k hk hn => h.block k hk (fun e => hn e.symm)⟩
theorem otre_kept {w w' : World} {S N : Nat → Prop} {t : Option (Nn × Fo)} {p : Option Addr} (h : OTre w S t p) (hk : Kept N w w') (hS : ∀ i, S i → ¬ N i) : OTre w' S t p := by
  cases t with
  | none => exact h
  | some xk =>
    obtain ⟨g, e, h1⟩ := h
    exact ⟨g, e, h1.kept hk hS⟩
theorem otow_kept {w w' : World} {o : Int} {S D N : Nat → Prop} {t : Option (Nn × Fo)} {p : Option Addr} (h : OTow w o S t p D) (hk : Kept N w w') (hS : ∀ i, S i → ¬ N i) (hD : ∀ i, D i → ¬ N i) : OTow w' o S t p D := by
  cases t with
  | none => exact h
  | some xk =>
    obtain ⟨g, e, h1⟩ := h
    exact ⟨g, e, h1.kept hk hS hD⟩
abbrev ptC (q : Option Addr) : List Value := [.pointer q]
/-- Where the loop stands: one owner's tree, the others' last one, and all those on the way. -/
structure Inv (W wr : World) (ps : List PV) (k : Nat) (q1 q2 : Option Addr) (v : Value) (D S : Nat → Prop) (qs : List (Option Addr)) : Prop where
  one : OTow wr 1 (fun _ => False) (wayT fO ps k) q1 D
  two : OTre wr S (wayT fM ps k) q2
  way : ∀ j q, qs[j]? = some q → OTre wr S (wayT fM ps (j + 1)) q
  row : MineR wr W.heap.size 30 1 v k (qs.map ptC)
  dD : ∀ i, D i → W.heap.size ≤ i ∧ i < wr.heap.size
  dS : ∀ i, S i → i < wr.heap.size ∧ ¬ D i
  own : ∀ g, v.ownBlock = some g → ¬ D g ∧ ¬ S g ∧ g < wr.heap.size
  below : Below W.heap.size W wr
theorem Inv.start (W : World) (ps : List PV) : Inv W W ps 0 none none (.slice none 0 0) (fun _ => False) (fun _ => False) [] :=
  ⟨rfl, rfl, fun j q hq => (by cases hq), MineR.nil _ _ _ _, fun _ q => q.elim, fun _ q => q.elim, fun g hg => (by cases hg), Below.refl _ _⟩
theorem Inv.next {W wr W1 w2 w3 W4 w5 : World} {ps : List PV} {k : Nat} {q1 q2 : Option Addr} {v v' : Value} {D S D1 : Nat → Prop} {qs : List (Option Addr)} {p : PV} {u1 u2 j : Nat}
    (h : Inv W wr ps k q1 q2 v D S qs) (hp : ps[k]? = some p) (b1 : Below wr.heap.size wr W1) (s : Std W1 w2 1 (fun _ => False) D none [] 0 (oputs 1 p.val (wayT fO ps k) p.key).1 (oputs 1 p.val (wayT fO ps k) p.key).2 u1 D1 j)
    (t : OTre w3 (fun i => S i ∨ (w2.heap.size ≤ i ∧ i < w3.heap.size)) (some (oputs (fM k) p.val (wayT fM ps k) p.key)) (some ⟨u2, 0, none⟩)) (b3 : Below w2.heap.size w2 w3)
    (b4 : Below w3.heap.size w3 W4) (hm : MineR w5 W.heap.size 30 1 v' (k + 1) (qs.map ptC ++ [ptC (some ⟨u2, 0, none⟩)])) (hg : W4.grownBy w5 v.ownBlock) (ho : v'.ownBlock = v.ownBlock ∨ v'.ownBlock = some W4.heap.size) (hlen : qs.length = k) (h45 : ∀ g, v'.ownBlock = some g → g < w5.heap.size) :
    Inv W w5 ps (k + 1) (some ⟨u1, 0, none⟩) (some ⟨u2, 0, none⟩) v' (fun i => D1 i ∧ i < w2.heap.size) (fun i => S i ∨ (w2.heap.size ≤ i ∧ i < w3.heap.size)) (qs ++ [some ⟨u2, 0, none⟩]) := by
  have z1 := b1.size
  have z2 := s.kept.size
  have z3 := b3.size
  have z4 := b4.size
  have z5 := hg.size
  have zw := h.below.size
  have kg := kept_grown hg
  have k35 : Kept (fun i => v.ownBlock = some i) w3 w5 := (Kept.of_below b4).trans kg
  have k25 : Kept (fun i => v.ownBlock = some i) w2 w5 := (Kept.of_below b3).trans k35
  have kS : Kept (fun i => D i ∨ v.ownBlock = some i) wr w5 := ((Kept.of_below b1).trans (s.kept.mono (fun i q => q.imp id (fun z => by cases z)))).trans (k25.mono fun i q => .inr q)
  have hD1 : ∀ i, D1 i → D i ∨ W1.heap.size ≤ i := s.sub
  have hb : Below W.heap.size W w5 := by
    have h2 : Below W.heap.size wr W1 := b1.mono zw
    have h3 : Below W.heap.size W1 w2 := s.kept.below (by omega) (fun g q => q.elim (fun z => (h.dD g z).1) (fun z => by cases z))
    have h4 : Below W.heap.size w2 w5 := k25.below (by omega) (fun g q => by
      obtain ⟨A, c, rfl, _⟩ := h.row.slice
      exact (h.row.lt g q).1)
    exact ((h.below.trans h2).trans h3).trans h4
  have hq : ∀ (i : Nat) (q : Option Addr), (qs ++ [(some ⟨u2, 0, none⟩ : Option Addr)])[i]? = some q → (qs[i]? = some q) ∨ (i = k ∧ q = some ⟨u2, 0, none⟩) := fun i q hq => by
    rcases Nat.lt_or_ge i qs.length with hl | hl
    · rw [List.getElem?_append_left hl] at hq
      exact .inl hq
    · rw [List.getElem?_append_right hl] at hq
      right
      rcases hz : i - qs.length with _ | n
      · rw [hz] at hq
        simp at hq
        exact ⟨by omega, hq.symm⟩
      · rw [hz] at hq
        simp at hq
  have ht5 : OTre w5 (fun i => S i ∨ (w2.heap.size ≤ i ∧ i < w3.heap.size)) (some (oputs (fM k) p.val (wayT fM ps k) p.key)) (some ⟨u2, 0, none⟩) := otre_kept t k35 (fun i q z => by
    obtain ⟨h1, h2, h3⟩ := h.own i z
    rcases q with q | q
    · exact h2 q
    · omega)
  refine ⟨?_, ?_, fun i q hi => ?_, ?_, fun i q => ?_, fun i q => ?_, fun g hgv => ?_, hb⟩
  · rw [wayT_next fO hp]
    refine otow_kept (t := some _) (p := some ⟨u1, 0, none⟩) ⟨u1, rfl, s.tow.there⟩ k25 (fun i q => q.elim) (fun i q z => ?_)
    obtain ⟨h1, h2, h3⟩ := h.own i z
    rcases hD1 i q.1 with y | y
    · exact h1 y
    · omega
  · rw [wayT_next fM hp]
    exact ht5
  · rcases hq i q hi with y | ⟨rfl, rfl⟩
    · exact (otre_kept (h.way i q y) kS (fun i q z => z.elim (h.dS i q).2 (fun y => (h.own i y).2.1 q))).mono (fun i q => .inl q)
    · rw [wayT_next fM hp]
      exact ht5
  · rw [List.map_append]
    exact hm
  · rcases hD1 i q.1 with y | y
    · exact ⟨(h.dD i y).1, by have := q.2; omega⟩
    · exact ⟨by omega, by have := q.2; omega⟩
  · rcases q with q | q
    · have h1 := h.dS i q
      refine ⟨by omega, fun z => ?_⟩
      rcases hD1 i z.1 with y | y
      · exact h1.2 y
      · omega
    · exact ⟨by omega, fun z => by have := z.2; omega⟩
  · have hlt := h45 g hgv
    rcases ho with e | e
    · rw [e] at hgv
      obtain ⟨h1, h2, h3⟩ := h.own g hgv
      refine ⟨fun z => ?_, fun z => ?_, hlt⟩
      · rcases hD1 g z.1 with y | y
        · exact h1 y
        · omega
      · rcases z with z | z
        · exact h2 z
        · omega
    · rw [e] at hgv
      injection hgv with hgv
      subst hgv
      refine ⟨fun z => by have := z.2; omega, fun z => ?_, hlt⟩
      rcases z with z | z
      · have := (h.dS _ z).1
        omega
      · omega
set_option maxRecDepth 100000 in
theorem info_nodep : (Tryz.prog.info? 30).map (fun i => (i.zero, i.size, i.bytes)) = some (some (.pointer none), 1, 8) := by kernel_rfl
set_option maxRecDepth 100000 in
theorem size_kpair : (Tryz.prog.info? 26).map (·.size) = some 2 := by kernel_rfl
theorem way_has (ps : List PV) (k : Nat) : oall (fun q => q ≠ fM k) (wayT fM ps k) := by
  have h := wayT_all fM ps (fun i q => q < (i : Int) + 2) (fun i q h => by omega) (fun i => by show (i : Int) + 2 < _; omega) k
  exact oall_mono (fun q h e => by have : q = (k : Int) + 2 := e; omega) h
set_option maxRecDepth 100000 in
set_option maxHeartbeats 8000000 in
theorem walk (A : Option Addr) (n c : Nat) (ps : List PV) (W : World) (htb : Tb W) (ha : Prs W W.heap.size A n ps) (hk : Kps W W.heap.size ps) (hnc : n ≤ c) (hv : ∀ p ∈ ps, 0 ≤ p.val ∧ p.val ≤ 18446744073709551615) :
    Calls Tryz.prog 6 #[.slice A n c] W fun e w' => e = .returned (.bool true) ∧ Below W.heap.size W w' := by
  have hle : 0 < W.heap.size := htb.lt
  have HTB := Lib.hid (fun (V : World) (h : Below W.heap.size W V) => htb.below h hle)
  have HAL := Lib.hid (fun (V : World) (h : Below W.heap.size W V) => palive_any V (htb.below h hle))
  have HA := Lib.hid (fun (V : World) (h : Below W.heap.size W V) => ha.below h)
  have HK := Lib.hid (fun (V : World) (h : Below W.heap.size W V) => hk.below h)
  have H1 := pfar_any A n c W.heap.size 60 ps W ha (Nat.le_refl _) (by omega)
  rw [show ((60 : Nat) : Int) = 60 from rfl] at H1
  have H1 := Lib.hid H1
  have HV := Lib.hid hv
  have HLN := Lib.hid ha.1
  have HNC := Lib.hid hnc
  clear htb ha hk hnc hv hle
  go_enter Tryz.func6, Tryz.ntmps6
  go_wp2_with fail
  (with_reducible refine H1.out.mono ?_)
  rintro e w1 ⟨rfl, b1⟩
  have B1 := Lib.hid b1
  obtain ⟨fb, hfb⟩ : ∃ b, farP ps 60 = b := ⟨_, rfl⟩
  rw [hfb]
  have HFB := Lib.hid hfb
  clear b1 hfb H1
  cases fb with
  | true =>
    have H2 := Lib.hid (HAL.out w1 B1.out)
    go_wp2_with fail
    (with_reducible refine H2.out.mono ?_)
    rintro e w2 ⟨rfl, b2⟩
    have B2 := Lib.hid (B1.out.trans (b2.mono B1.out.size))
    clear b2
    go_wp2_with fail
    go_ret
    exact ⟨rfl, B2.out⟩
  | false =>
    obtain ⟨f1, f2⟩ := farP_no HFB.out
    have hn60 : n ≤ 60 := by have := HLN.out; omega
    have F2 := Lib.hid f2
    clear f1 f2
    go_wp2_with fail
    go_loopw [3, 4, 5, 19] (fun v3 v4 v5 i wr => ∃ (k : Nat) (q1 q2 : Option Addr), k ≤ n ∧ v3 = .pointer q1 ∧ v4 = .pointer q2 ∧ i = .int .i64 k ∧ Hid (Below W.heap.size W wr) ∧ Hid (∃ D S qs, Inv w1 wr ps k q1 q2 v5 D S qs ∧ qs.length = k)) (fun _ _ _ i _ => n - (intOf i).toNat)
    case atStart => exact ⟨0, none, none, Nat.zero_le _, rfl, rfl, rfl, B1, Lib.hid ⟨_, _, [], Inv.start w1 ps, rfl⟩⟩
    case round =>
      obtain ⟨k, q1, q2, hkn, rfl, rfl, rfl, HB, HI⟩ := hrel
      by_cases h1 : k < n
      · obtain ⟨ad, p, rfl, hlt, e1, c1, c2, b1⟩ := (HA.out _ HB.out).at_ h1
        have hpm : p ∈ ps := List.mem_of_getElem? e1
        have HV1 := Lib.hid e1
        have hsz := HB.out.size
        rw [← add_of_add] at c2
        have c2' : wr.cell? ⟨(ad.add (k * 2)).block, (ad.add (k * 2)).off + 1, none⟩ = some (.int .u64 p.val) := c2
        obtain ⟨D, S, qs, hI, hqs⟩ := HI.out
        obtain ⟨A5, c5, rfl, hc5⟩ := hI.row.slice
        obtain ⟨W1, hW1⟩ : ∃ V, wr.alloc (.cells #[.slice p.A p.n p.c, .int .u64 p.val] 26) = V := ⟨_, rfl⟩
        have bW1 : Below wr.heap.size wr W1 := by rw [← hW1]; exact (Below.refl _ _).alloc (Nat.le_refl _) _
        have sW1 : W1.heap.size = wr.heap.size + 1 := by rw [← hW1, World.size_alloc]
        have kW1 : Blk W1 wr.heap.size #[.slice p.A p.n p.c, .int .u64 p.val] := by rw [← hW1]; exact Blk.new wr _ _
        have hB1 : Below W.heap.size W W1 := HB.out.trans (bW1.mono hsz)
        have hzw1 := hI.below.size
        have hw1z := B1.out.size
        have hcan := wayT_can fO ps k (by have := HLN.out; omega)
        have hcan2 := wayT_can fM ps k (by have := HLN.out; omega)
        have hkl : p.n ≤ 300 := by have := F2.out p hpm; have := b1.1; omega
        have hpc := ((HK.out wr HB.out) p hpm).2
        have hky0 : ∀ V, Below W.heap.size W V → Byt V W.heap.size p.A p.n p.key := fun V h => ((HK.out V h) p hpm).1
        have hp1 : Pre W1 1 (fun _ => False) D none [] 0 (omx 1 (wayT fO ps k) p.key) := ⟨by decide, fun i q => q.elim, fun g q => (by cases q), fun i q => (by cases q), by
          have h1 := omx_le 1 (wayT fO ps k) p.key
          have h2 := oway_le 1 (wayT fO ps k) p.key 0
          have h3 := ogo_len (wayT fO ps k) p.key 0
          have h4 := b1.1
          omega⟩
        have hdb : ∀ V, Kept (fun q => D q ∨ (none : Option Nat) = some q) W1 V → Below W.heap.size W V := fun V hk => hB1.trans (hk.below hB1.size (fun g q => q.elim (fun z => by have := (hI.dD g z).1; omega) (fun z => by cases z)))
        have H2 := put_any (o := 1) (v := p.val) (c := p.c) (m := none) (rest := []) (cnt := 0) (otow_kept (N := fun _ => False) hI.one (Kept.of_below bW1) (fun i q => q.elim) (fun i _ q => q)) hcan.srt hcan.owf hp1 (fun V hk => (hky0 V (hdb V hk)).more hB1.size) (fun i _ q => by cases q) hpc (by omega)
        rw [show mtr none = .pointer none from rfl] at H2
        have H2 := Lib.hid H2
        have k0 : W1.cell? ⟨wr.heap.size, 0, none⟩ = some (.slice p.A p.n p.c) := kW1.cell 0
        have k1 : W1.cell? ⟨wr.heap.size, 1, none⟩ = some (.int .u64 p.val) := kW1.cell 1
        have HIV := Lib.hid hI
        have HDB := Lib.hid hdb
        have HKY := Lib.hid hky0
        have HKW := Lib.hid kW1
        have HBW := Lib.hid (And.intro bW1 sW1)
        have HCN := Lib.hid hcan2
        have HPC := Lib.hid hpc
        have HQS := Lib.hid hqs
        have ew1 : IntKind.u64.wrap (k : Int) = (k : Int) := IntWalk.u64_in _ ⟨by omega, by omega⟩
        have ew2 : IntKind.u64.wrap ((k : Int) + 2) = (k : Int) + 2 := IntWalk.u64_in _ ⟨by omega, by omega⟩
        clear hI bW1 sW1 kW1 hcan hcan2 hky0 hp1 hdb hB1 hpc hqs HI c2 e1 b1
        go_wp2_with fail
        clear hW1
        (with_reducible refine H2.out.mono ?_)
        rintro e w2 ⟨u1, D1, j1, rfl, s2, _⟩
        have hB2 := HDB.out w2 s2.kept
        have hbx : Blk w2 wr.heap.size #[.slice p.A p.n p.c, .int .u64 p.val] := s2.kept.blk HKW.out (fun q => q.elim (fun z => by have := (HIV.out.dD _ z).2; omega) (fun z => by cases z))
        have k0 : w2.cell? ⟨wr.heap.size, 0, none⟩ = some (.slice p.A p.n p.c) := hbx.cell 0
        have k1 : w2.cell? ⟨wr.heap.size, 1, none⟩ = some (.int .u64 p.val) := hbx.cell 1
        have kR2 : Kept D wr w2 := (Kept.of_below HBW.out.1).trans (s2.kept.mono (fun i q => q.elim id (fun z => by cases z)))
        have hz2 := kR2.size
        have H3 := Lib.hid (put_other (o := fM k) (v := p.val) (c := p.c) (by show (1 : Int) ≤ (k : Int) + 2; omega) (otre_kept HIV.out.two kR2 (fun i q => (HIV.out.dS i q).2)) (fun i q => Nat.lt_of_lt_of_le (HIV.out.dS i q).1 hz2) (way_has ps k) HCN.out.srt HCN.out.owf (HKY.out w2 hB2) hB2.size HPC.out (by omega))
        have HB2 := Lib.hid hB2
        have HK2 := Lib.hid kR2
        have HS2 := Lib.hid s2
        clear s2 hB2 hbx kR2 H2
        go_wp2_with fail
        (with_reducible refine H3.out.mono ?_)
        rintro e w3 ⟨u2, rfl, t3, b3⟩
        have HT3 := Lib.hid t3
        have HB3 := Lib.hid b3
        have hrow : ∀ o : Obj, MineR (w3.alloc o) w1.heap.size 30 1 (.slice A5 k c5) k (qs.map ptC) := fun o =>
          ((HIV.out.row.keptK HK2.out (fun i q => (HIV.out.own i q).1)).keptK (Kept.of_below b3 (D := fun _ => False)) (fun _ _ q => q)).alloc o
        have HRW := Lib.hid hrow
        have hz3 := b3.size
        have HCL := Lib.hid (show ∀ (i : Nat) (u : Value), (ptC (some ⟨u2, 0, none⟩))[i]? = some u → (w3.alloc (.cells #[.pointer (some ⟨u2, 0, none⟩)] 30)).cell? ((⟨w3.heap.size, 0, none⟩ : Addr).add i) = some u from fun i u hi => by
          match i, hi with
          | 0, hi => cases hi; exact (Blk.new w3 30 #[.pointer (some ⟨u2, 0, none⟩)]).cell 0)
        clear t3 b3 hrow H3 k0 k1 ew1 ew2
        go_wp2_with (at_builtin
                     refine wpList_append_rws (w3.alloc (.cells #[.pointer (some ⟨u2, 0, none⟩)] 30)) rfl (.tmp 53) (.tmp 55) _ rfl Tryz.underlying52 info_nodep (by rfl) (by decide) w1.heap.size (.slice A5 k c5) k (qs.map ptC) rfl (HRW.out _) ⟨w3.heap.size, 0, none⟩ 1 (ptC (some ⟨u2, 0, none⟩)) rfl rfl HCL.out (by intro u hu; simp at hu; subst hu; rfl) (by omega) (by unfold maxLen; omega) (by simp; omega) ?_
                     intro v' w5 hm5 hg5 ho5
                     have M5 := Lib.hid hm5
                     have G5 := Lib.hid (And.intro hg5 ho5)
                     clear hm5 hg5 ho5)
        go_wp2_with fail
        have hnx := HIV.out.next HV1.out HBW.out.1 HS2.out HT3.out HB3.out ((Below.refl _ _).alloc (Nat.le_refl _) _) M5.out G5.out.1 G5.out.2 HQS.out (fun g hgv => (M5.out.lt g hgv).2)
        have hbn : Below W.heap.size W w5 := B1.out.trans (hnx.below.mono B1.out.size)
        exact ⟨⟨k + 1, _, _, by omega, rfl, rfl, by go_num, Lib.hid hbn, Lib.hid ⟨_, _, _, hnx, by rw [List.length_append, HQS.out]; rfl⟩⟩, by simp [intOf]; omega⟩
      · obtain rfl : k = n := by omega
        obtain ⟨wo, hwo⟩ : ∃ V, V = wr := ⟨_, rfl⟩
        subst hwo
        obtain ⟨D, S, qs, hI, hqs⟩ := HI.out
        obtain ⟨A5, c5, rfl, hc5⟩ := hI.row.slice
        have HRW := Lib.hid (fun (V : World) (h : Below wo.heap.size wo V) => hI.row.rws.below h)
        have HWY := Lib.hid (fun (V : World) (h : Below wo.heap.size wo V) (j : Nat) (q : Option Addr) (hq : qs[j]? = some q) => (OTre.here (hI.way j q hq)).below h)
        have HON := Lib.hid (fun (V : World) (h : Below wo.heap.size wo V) => (OTre.mono (S' := (· < wo.heap.size)) hI.one.otre (fun i q => q.elim (fun z => z.elim) (fun z => (hI.dD i z).2)) : OTre wo (· < wo.heap.size) (wayT fO ps k) q1).below h)
        have HQS := Lib.hid hqs
        have HZ := Lib.hid (fun (V : World) (h : Below wo.heap.size wo V) => HB.out.trans (h.mono HB.out.size))
        clear hI hqs HI
        go_wp2_with fail
        go_loopw [60] (fun i wq => ∃ jj : Nat, jj ≤ k ∧ i = .int .i64 jj ∧ Hid (Below wo.heap.size wo wq)) (fun i _ => k - (intOf i).toNat)
        case atStart => exact ⟨0, Nat.zero_le _, rfl, Lib.hid (Below.refl _ _)⟩
        case round =>
          obtain ⟨jj, hjk, rfl, HQ⟩ := hrel
          by_cases hj : jj < k
          · obtain ⟨ad5, cs5, rfl, _, f1, f2, f3⟩ := (HRW.out wr HQ.out).at_ hj
            have hq : ∃ q, qs[jj]? = some q := ⟨_, List.getElem?_eq_getElem (by have := HQS.out; omega)⟩
            obtain ⟨q, hq⟩ := hq
            have hcs : cs5 = ptC q := by
              rw [List.getElem?_map, hq] at f1
              injection f1 with f1
              exact f1.symm
            subst hcs
            have f4 : wr.cell? (ad5.add jj) = some (.pointer q) := by
              have := f3 0 _ rfl
              rwa [Nat.mul_one, Nat.add_zero] at this
            have hbz := HZ.out wr HQ.out
            obtain ⟨j1, hj1⟩ : ∃ z, jj + 1 = z := ⟨_, rfl⟩
            have hj1k : j1 ≤ k := by omega
            have hjc : j1 ≤ c := Nat.le_trans hj1k HNC.out
            have ew : IntKind.i64.wrap ((jj : Int) + 1) = (j1 : Int) := by rw [IntKind.wrap_i64]; omega
            have sl := fun W' => slc_upto (P := Tryz.prog) Tryz.underlying22 size_kpair A k c j1 hjc W'
            have HS := Lib.hid (rsort_any A j1 c W.heap.size (ps.take j1) wr ((HA.out wr hbz).take hj1k) (fun p hp => (HK.out wr hbz) p (List.mem_of_mem_take hp)) hbz.size (by omega))
            have HT := Lib.hid (show OTre wr (· < wr.heap.size) (wayT fM ps j1) q from hj1 ▸ HWY.out wr HQ.out jj q hq)
            have HCN := Lib.hid (wayT_can fM ps j1 (by have := HLN.out; omega))
            have HJ1 := Lib.hid hj1
            clear f1 f2 f3 hq hj1 hbz
            go_wp2_with fail
            (with_reducible refine HS.out.mono ?_)
            rintro e w6 ⟨A6, c6, rfl, hc6, p6, _, b6⟩
            have B6 := Lib.hid (HQ.out.trans (b6.mono HQ.out.size))
            have hbz6 := HZ.out w6 B6.out
            have h6l := (sortS_len (ps.take j1)).1
            rw [List.length_take] at h6l
            have H7 := Lib.hid (pas_any (c := c6) (HTB.out w6 hbz6) (HT.out.below b6) p6 (Kps.sort (fun p hp => ⟨(((HK.out w6 hbz6) p (List.mem_of_mem_take hp)).1.more hbz6.size), ((HK.out w6 hbz6) p (List.mem_of_mem_take hp)).2⟩)) (Nat.le_refl _) (by omega) hc6 (sortS_rise _)
              (sortS_all (P := fun p => p.key.length ≤ 600) (fun _ _ h _ => h) (fun p hp => by have := F2.out p (List.mem_of_mem_take hp); omega)) (sortS_all (P := fun p => 0 ≤ p.val ∧ p.val ≤ 18446744073709551615) (fun _ _ _ h => h) (fun p hp => HV.out p (List.mem_of_mem_take hp))) HCN.out)
            clear p6 b6 hbz6 h6l HS ew sl f4 hc6
            go_wp2_with fail
            (with_reducible refine H7.out.mono ?_)
            rintro e w7 ⟨rfl, b7⟩
            have B7 := Lib.hid (B6.out.trans (b7.mono B6.out.size))
            clear b7 H7
            go_wp2_with fail
            exact ⟨⟨jj + 1, by omega, by go_num, B7⟩, by simp [intOf]; omega⟩
          · have hbz := HZ.out wr HQ.out
            have HS := Lib.hid (rsort_any A k c W.heap.size ps wr (HA.out wr hbz) (HK.out wr hbz) hbz.size (by omega))
            clear hbz
            go_wp2_with fail
            (with_reducible refine HS.out.mono ?_)
            rintro e w6 ⟨A6, c6, rfl, hc6, p6, _, b6⟩
            have B6 := Lib.hid (HQ.out.trans (b6.mono HQ.out.size))
            have hbz6 := HZ.out w6 B6.out
            have h6l := (sortS_len ps).1
            have hln := HLN.out
            have hcan : OCan (sortS ps) (wayT fO ps k) := by
              have h1 := wayT_can fO ps k (by omega)
              rwa [List.take_of_length_le (by omega)] at h1
            have hks : ∀ p ∈ sortS ps, p.key.length ≤ 600 := sortS_all (P := fun p => p.key.length ≤ 600) (fun _ _ h _ => h) (fun p hp => by have := F2.out p hp; omega)
            have hvs : ∀ p ∈ sortS ps, 0 ≤ p.val ∧ p.val ≤ 18446744073709551615 := sortS_all (P := fun p => 0 ≤ p.val ∧ p.val ≤ 18446744073709551615) (fun _ _ _ h => h) HV.out
            have H7 := Lib.hid (pas_any (c := c6) (HTB.out w6 hbz6) (HON.out w6 B6.out) p6 (Kps.sort (fun p hp => ⟨(((HK.out w6 hbz6) p hp).1.more hbz6.size), ((HK.out w6 hbz6) p hp).2⟩)) (Nat.le_refl _) (by omega) hc6 (sortS_rise _) hks hvs hcan)
            have HO := Lib.hid (hcan.o hks (by omega) hvs)
            clear p6 b6 hbz6 h6l hln hcan hks hvs HS hc6
            go_wp2_with fail
            (with_reducible refine H7.out.mono ?_)
            rintro e w7 ⟨rfl, b7⟩
            have B7 := Lib.hid (B6.out.trans (b7.mono B6.out.size))
            have H8 := cfine_any (wayT fO ps k) q1 w7 (HON.out w7 B7.out) HO.out.fits
            rw [HO.out.fine] at H8
            have H8 := Lib.hid H8
            clear b7 H7
            go_wp2_with fail
            (with_reducible refine H8.out.mono ?_)
            rintro e w8 ⟨rfl, b8⟩
            have B8 := Lib.hid (B7.out.trans (b8.mono B7.out.size))
            have H9 := Lib.hid (HAL.out w8 (HZ.out w8 B8.out))
            clear b8 H8
            go_wp2_with fail
            (with_reducible refine H9.out.mono ?_)
            rintro e w9 ⟨rfl, b9⟩
            have B9 := Lib.hid (HZ.out w9 (B8.out.trans (b9.mono B8.out.size)))
            clear b9 H9
            go_wp2_with fail
            go_ret
            exact ⟨rfl, B9.out⟩
set_option maxRecDepth 100000 in
theorem lifted (os : Os) (started : os.Started) (H : Type) (enc : TypeId × Value → H) :
    ReturnsInHanded {} Tryz.checked os 6 .any (fun w args => (Rows.putOrderSpec.pre enc Tryz.prog Tryz.f6 [] false w args ∧ laidMetH Tryz.prog laid3 w) ∧ sizedMet enc Tryz.prog Tryz.f6 (OpenSpec.ofChange Rows.putOrderSpec) false w args) (Rows.putOrderSpec.post enc Tryz.prog Tryz.f6 false true false false) := by
  refine returnsInHanded_of_change_and (C := Tryz.checked) (X := fun w _ => laidMetH Tryz.prog laid3 w) (fun _ _ _ hh h => h.of_heap hh) own started (by kernel_rfl) Tryz.func6
    (ChangeSpec.witness_shaped (enc := enc) (C := Tryz.checked) (os := os) (X := fun w _ => laidMetH Tryz.prog laid3 w) false (World.doorLaid Tryz.prog 400 os) #[.slice none 0 0] 8 rfl (World.shaped_of_RefB (by kernel_rfl) (by kernel_rfl)) (by kernel_rfl) (by kernel_rfl) (by kernel_rfl) (door_met3 os _)) ?_
  intro W base args ds gs before hval0 hW _ _ hL _
  have hval : ∀ (j : Nat) t v, Tryz.f6.params[j]? = some t → args[j]? = some v → Value.okWide Tryz.prog W .any base t v := hval0
  have hW' := hW
  obtain ⟨p, q, hA0, hV, rfl, hfz, hnd⟩ := hW
  have hA : DataW.TrodAll enc Tryz.prog W 0 (fun _ => true) true Tryz.f6.params.toList args.toList ds p := hA0
  rw [Tryz.params6] at hA hval
  obtain ⟨v0, vs0, d0, ds0, p0, q0, hargs, rfl, rfl, h0, r0⟩ := trodAll_cons hA
  obtain ⟨rfl, rfl, rfl⟩ := trodAll_nil r0
  obtain rfl : args = #[v0] := by cases args; simp_all
  obtain ⟨rfl, rfl⟩ := trodVars_none hV
  have k0 := h0
  have lt0 : ∀ x ∈ p0, x.block < W.heap.size := by obtain ⟨m, hm⟩ := k0; exact DataW.trod_lt m _ _ _ hm
  obtain ⟨A0, n0, c0, l0, rfl, b0, kp0, nc0, vl0⟩ := open_kps (hval 0 22 v0 rfl rfl) h0
  clear hA0 hval0
  refine (walk A0 n0 c0 l0 W (of_laid3 hL) b0 kp0 nc0 vl0).mono fun e W' ⟨he, bel⟩ => ?_
  subst he
  exact ⟨_, rfl, _, _, _, [], _, [], hW', trodAll_mk1 (shut_bool Tryz.underlying4 _), (trodAll_cons_mk (Below.trod laidOut (by kernel_rfl) (of_decide_eq_true (by kernel_rfl)) k0 bel lt0) trodAll_mk0), rfl, bel.frame _, fun h => by cases h⟩

set_option maxRecDepth 100000 in
theorem proved : Rows.PutOrderSaid :=
  OpenClaim.holds_of_wide 6 Tryz.f6 rfl rfl rfl rfl rfl rfl rfl ⟨rfl, rfl, rfl, rfl, rfl⟩ rfl rfl rfl rfl rfl (by kernel_rfl) Tryz.func6 (by kernel_rfl)
    (of_decide_eq_true (by kernel_rfl)) (by unfold Func.isWrapper; first | (rw [if_pos (by decide +kernel)]; kernel_rfl) | (rw [if_neg (by decide +kernel)]; exact ⟨rfl, rfl⟩))
    (fun os started H enc _ => lifted os started H enc)
set_option maxRecDepth 100000 in
theorem card_holds : Rows.PutOrderCardSaid :=
  Claim7.holds_tied_plain_at .later [] [.data, .data, .data] true _ false
    proved (fun _ h => by cases h) (by kernel_rfl) (fun _ h => by cases h) putOrder_row_tie rfl ⟨rfl, rfl⟩ (by kernel_rfl) rfl
    (fun f fn hf hfn => by
      obtain rfl : f = 6 := Option.some.inj ((show Tryz.prog.funcNamed "spunyarn/spunyarnlaw15.PutOrder" = some 6 by kernel_rfl).symm.trans hf) |>.symm
      obtain rfl : fn = Tryz.f6 := (Option.some.inj (Tryz.func6.symm.trans hfn)).symm
      exact ⟨by kernel_rfl, fun j t ht => by
        rw [Tryz.params6] at ht
        have hm : t ∈ [22] := by simpa using Array.mem_of_getElem? ht
        have hall : ([22].all fun u => !Tryz.prog.wantsStandIn u) = true := by kernel_rfl
        exact (show Tryz.prog.wantsStandIn t = false by simpa using List.all_eq_true.1 hall t hm)⟩)
    (by kernel_rfl)
end Go.Proofs.YtikmcmoegigfhaaGreatDoor.putOrder
