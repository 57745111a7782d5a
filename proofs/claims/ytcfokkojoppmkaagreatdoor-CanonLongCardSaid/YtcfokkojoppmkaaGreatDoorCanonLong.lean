/-
  Proved here: keys of more than 65535 bytes may not be, neither in pairs nor in trees, wherever they part; nothing that came in is turned. The one condition is the card's own: the table of the powers of ten lies as the program's library lays it (tied).
-/
import Derived.Test.YtcfokkojoppmkaaGreatDoorCnAlive
import Derived.Test.YtcfokkojoppmkaaGreatDoorPowTab
import Derived.Test.YtcfokkojoppmkaaGreatDoorNdSide
import Derived.Test.YtcfokkojoppmkaaGreatDoorRow
import Derived.Test.YtcfokkojoppmkaaGreatDoorTie
import Derived.Test.YtcfokkojoppmkaaGreatDoorCards
import Derived.SevenTiedAt
import Derived.Deep.RegionHeld3
namespace Go.Proofs.YtcfokkojoppmkaaGreatDoor.canonLong
open Go.ChangeShapes Go.WideShapes Go.ChangeAt Go.RowKit

theorem cT_two (o : Int) (f : Nat) (x y : List UInt8) (b : UInt8) (v u : Int) : cT o (f + 1) [(x, v), (x ++ b :: y, u)] = (⟨false, o, x, v, true⟩, .cons b ⟨true, o, y, u, true⟩ .nil .nil) := by
  have h1 : lcp x (x ++ b :: y) = x.length := by
    induction x with
    | nil => cases b :: y <;> rfl
    | cons a x ih => rw [List.cons_append, lcp_same, ih]; rfl
  have h2 : ∀ f, cT o f [(y, u)] = (⟨true, o, y, u, true⟩, .nil) := fun f => by cases f <;> rfl
  unfold cT
  simp only [List.getLast_singleton, h1, if_true, List.take_length]
  simp [cut, grp, gput, mkF, h2]
theorem cmp_more (x y : List UInt8) (b : UInt8) : cmpL x (x ++ b :: y) < 0 := by
  induction x with
  | nil => simp [cmpL]
  | cons a x ih => rw [List.cons_append, lt_cons]; exact .inr ⟨rfl, ih⟩
abbrev zr (a : Nat) : List UInt8 := List.replicate a 0
theorem zr_len (a : Nat) : (zr a).length = a := by simp [zr]
theorem zr_more (a b : Nat) : zr (a + 1 + b) = zr a ++ 0 :: zr b := by
  unfold zr
  rw [show a + 1 + b = a + (b + 1) by omega, ← List.replicate_append_replicate, List.replicate_succ]
theorem make_u32 {P : Program} {t e : TypeId} (ht : P.underlying t = some (.slice e)) (hi : (P.info? e).map (fun i => (i.zero, i.size, i.bytes)) = some (some (.int .u8 0), 1, 1)) (k : Nat) (hk : k ≤ 281474976710656) (w : World) :
    (Instr.makeSlice t (.int .u32 (k : Int)) (.int .u32 (k : Int))).run P w = .ok (.slice (some ⟨w.heap.size, 0, none⟩) k k) (w.alloc (.cells (bvs (zr k)) e)) := by
  obtain ⟨i0, hi0, hz0, hz1, hz2⟩ := info_parts hi
  have h := run_make (P := P) w t e i0 (.int .u8 0) ht hi0 hz0 .u32 .u32 (k : Int) (k : Int) (by omega) (Int.le_refl _) (by rw [hz2]; omega) (by omega)
  rw [Int.toNat_natCast] at h
  have e1 : madeCells (Value.int .u8 0).cells (k * i0.size) = bvs (zr k) := by
    rw [hz1, Nat.mul_one]
    apply Array.ext'
    simp [madeCells, Value.cells, bvs, bv, zr, Nat.mod_one, List.map_const']
  rw [e1] at h
  exact h
theorem byt_zr (w : World) (e : TypeId) (k : Nat) (hk : k ≤ maxLen) : Byt (w.alloc (.cells (bvs (zr k)) e)) (w.heap.size + 1) (some ⟨w.heap.size, 0, none⟩) k (zr k) :=
  (Row.new w e (zr k)).byt (zr_len k) hk (by omega)

theorem two_prs (V : World) (t T : TypeId) (x y : List UInt8) {nx ny : Nat} (hx : x.length = nx) (hy : y.length = ny) (hnx : nx ≤ maxLen) (hny : ny ≤ maxLen) (p q : PV) {cs : Array Value} (hcs : cs = #[.slice p.A p.n p.c, .int .u64 p.val, .slice q.A q.n q.c, .int .u64 q.val])
    (hp : p = ⟨some ⟨V.heap.size, 0, none⟩, nx, nx, x, p.val⟩ ∨ p = ⟨some ⟨V.heap.size + 1, 0, none⟩, ny, ny, y, p.val⟩) (hq : q = ⟨some ⟨V.heap.size, 0, none⟩, nx, nx, x, q.val⟩ ∨ q = ⟨some ⟨V.heap.size + 1, 0, none⟩, ny, ny, y, q.val⟩) :
    PrM (((V.alloc (.cells (bvs x) t)).alloc (.cells (bvs y) t)).alloc (.cells cs T)).drew none (V.heap.size + 3) (some ⟨V.heap.size + 1 + 1, 0, none⟩) 2 [p, q] := by
  obtain ⟨U, hU⟩ : ∃ U, (((V.alloc (.cells (bvs x) t)).alloc (.cells (bvs y) t)).alloc (.cells cs T)).drew = U := ⟨_, rfl⟩
  have sU : U.heap.size = V.heap.size + 3 := by rw [← hU]; simp
  have b1 : Byt U (V.heap.size + 3) (some ⟨V.heap.size, 0, none⟩) nx x := by
    rw [← hU]
    exact (((Row.new V t x).byt hx hnx (B := V.heap.size + 1) (by omega)).below (((Below.refl _ _).alloc (by simp) _).alloc (by simp) _).drew).more (by omega)
  have b2 : Byt U (V.heap.size + 3) (some ⟨V.heap.size + 1, 0, none⟩) ny y := by
    rw [← hU]
    have := (Row.new (V.alloc (.cells (bvs x) t)) t y).byt hy hny (B := V.heap.size + 2) (by simp)
    rw [World.size_alloc] at this
    exact (this.below ((Below.refl _ _).alloc (by simp) _).drew).more (by omega)
  have b3 : Blk U (V.heap.size + 1 + 1) cs := by
    rw [← hU]
    have := (Blk.new ((V.alloc (.cells (bvs x) t)).alloc (.cells (bvs y) t)) T cs).drewN 1
    simp only [World.size_alloc] at this
    exact this
  rw [hU]
  have key : ∀ z : PV, (z = ⟨some ⟨V.heap.size, 0, none⟩, nx, nx, x, z.val⟩ ∨ z = ⟨some ⟨V.heap.size + 1, 0, none⟩, ny, ny, y, z.val⟩) → Byt U (V.heap.size + 3) z.A z.n z.key ∧ z.n ≤ z.c := fun z hz => by
    rcases hz with hz | hz <;> rw [hz]
    · exact ⟨b1, Nat.le_refl _⟩
    · exact ⟨b2, Nat.le_refl _⟩
  have hprs : Prs U (V.heap.size + 3) (some ⟨V.heap.size + 1 + 1, 0, none⟩) 2 [p, q] := by
    refine ⟨rfl, by unfold maxLen; omega, fun j z hz => ?_, fun _ => ⟨_, rfl, by simp, fun j z hz => ?_⟩⟩
    · match j, hz with
      | 0, hz => cases hz; exact (key p hp).1
      | 1, hz => cases hz; exact (key q hq).1
    · subst hcs
      match j, hz with
      | 0, hz => cases hz; exact ⟨b3.cell 0, b3.cell 1⟩
      | 1, hz => cases hz; exact ⟨b3.cell 2, b3.cell 3⟩
  refine ⟨fun V' hV => hprs.below (hV.below (by omega) (fun i q => by cases q)), fun z _ i _ => by simp, fun z hz => ?_⟩
  simp only [List.mem_cons, List.not_mem_nil, or_false] at hz
  rcases hz with rfl | rfl
  · exact (key z hp).2
  · exact (key z hq).2
abbrev twoT (a b : Nat) (v : Int) : Nn × Fo := (⟨false, 1, zr a, v, true⟩, .cons 0 ⟨true, 1, zr b, v, true⟩ .nil .nil)
theorem vis_two (a b : Nat) (v : Int) : otvis (some (twoT a b v)) = [⟨⟨false, 1, zr a, v, true⟩, 1, zr a, 1⟩, ⟨⟨true, 1, zr b, v, true⟩, 0, zr (a + 1 + b), 2⟩] := by
  rw [zr_more]
  simp [otvis, tvis, Fo.vis, Fo.len]
theorem fits_two {a b : Nat} (v : Int) (h : a + 1 + b ≤ 1000000) : Fits (some (twoT a b v)) := by
  unfold Fits
  rw [vis_two]
  refine ⟨fun z hz => ?_, by simp⟩
  simp only [List.mem_cons, List.not_mem_nil, or_false] at hz
  rcases hz with rfl | rfl
  · exact ⟨by rw [zr_len]; omega, by simp⟩
  · exact ⟨by rw [zr_len]; omega, by simp⟩
theorem fine_two (a b : Nat) (v : Int) : (otvis (some (twoT a b v))).all Vt.fine = decide (a + 1 + b ≤ 65535) := by
  rw [vis_two]
  simp only [List.all_cons, List.all_nil, Vt.fine, Vt.occ, zr_len, Bool.and_true, Bool.true_or, if_true]
  by_cases h : a + 1 + b ≤ 65535
  · rw [decide_eq_true h, decide_eq_true (show a ≤ 65535 by omega)]; rfl
  · rw [decide_eq_false h, Bool.and_false]
theorem deep_two (a b : Nat) (v : Int) : dpV (otvis (some (twoT a b v))) = 2 := by
  rw [vis_two]
  rfl
theorem tre_two {w : World} {B : Nat} {N : Nat → Prop} {g1 g2 a b : Nat} (h : Ns w B N [(g1, ⟨false, 1, zr a, 1, true, [(0, some ⟨g2, 0, none⟩)]⟩), (g2, ⟨true, 1, zr b, 1, true, []⟩)]) : OTre w (· < w.heap.size) (some (twoT a b 1)) (some ⟨g1, 0, none⟩) := by
  obtain ⟨b1, A1, h1⟩ := h.at_ (k := 0) rfl
  obtain ⟨b2, A2, h2⟩ := h.at_ (k := 1) rfl
  exact ⟨g1, rfl, b1, A1, _, h1, fun i hi => hi.elim (fun q => h1.lt q) (fun q => h1.ltA q), g2, b2, A2, [], [], rfl, h2, fun i hi => hi.elim (fun q => h2.lt q) (fun q => h2.ltA q), rfl, rfl⟩
theorem chk_two (a b : Nat) : chkV [zr a, zr (a + 1 + b)] = if a + 1 + b ≤ 65535 then 0 else 8 := by
  have hr : riseB [zr a, zr (a + 1 + b)] = true := by
    have := cmp_more (zr a) (zr b) 0
    rw [← zr_more] at this
    simp only [riseB, Bool.and_true, decide_eq_true_eq]
    exact this
  have hb : bigB [zr a, zr (a + 1 + b)] = decide (65535 < a + 1 + b) := by
    simp only [bigB, List.any_cons, List.any_nil, zr_len, Bool.or_false]
    by_cases h : 65535 < a + 1 + b
    · rw [decide_eq_true h, Bool.or_true]
    · rw [decide_eq_false h, decide_eq_false (by omega)]; rfl
  unfold chkV
  rw [hr, hb]
  by_cases h : a + 1 + b ≤ 65535
  · rw [if_pos h, decide_eq_false (by omega)]; rfl
  · rw [if_neg h, decide_eq_true (by omega)]; rfl

set_option maxRecDepth 100000 in
set_option maxHeartbeats 4000000 in
theorem walk (x0 x1 : Int) (W : World) (htb : Tb W) (wx0 : (Lit.int .u32 x0).wf = true) (wx1 : (Lit.int .u32 x1).wf = true) :
    Calls Tryz.prog 8 #[.int .u32 x0, .int .u32 x1] W fun e w' => e = .returned (.bool true) ∧ Below W.heap.size W w' := by
  have hb0 : 0 ≤ x0 ∧ x0 ≤ 4294967295 := by simpa [Lit.wf, IntKind.min, IntKind.max, IntKind.signed, IntKind.bits] using wx0
  have hb1 : 0 ≤ x1 ∧ x1 ≤ 4294967295 := by simpa [Lit.wf, IntKind.min, IntKind.max, IntKind.signed, IntKind.bits] using wx1
  have HTB := Lib.hid htb
  clear htb wx0 wx1
  go_enter Tryz.func8, Tryz.ntmps8
  go_upto_region 2 with fail
  obtain ⟨a, ha, ha2⟩ : ∃ a : Nat, x0 % 70000 = (a : Int) ∧ a < 70000 := ⟨(x0 % 70000).toNat, by omega, by omega⟩
  obtain ⟨b, hb, hb2⟩ : ∃ b : Nat, x1 % 70000 = (b : Int) ∧ b < 70000 := ⟨(x1 % 70000).toNat, by omega, by omega⟩
  rw [ha, hb]
  clear ha hb hb0 hb1
  have mk := fun (k : Nat) (hk : k < 70000) W' => make_u32 (P := Tryz.prog) Tryz.underlying42 info_u8 k (by omega) W'
  have mka := mk a ha2
  have mkb := mk b hb2
  clear mk
  obtain ⟨W1, hW1⟩ : ∃ V, W.alloc (.cells (bvs (zr a)) 5) = V := ⟨_, rfl⟩
  have b1 : Below W.heap.size W W1 := by rw [← hW1]; exact (Below.refl _ _).alloc (Nat.le_refl _) _
  have y1 : Byt W1 W1.heap.size (some ⟨W.heap.size, 0, none⟩) a (zr a) := by rw [← hW1]; exact (byt_zr W _ a (by unfold maxLen; omega)).more (by simp)
  have HI := Lib.hid (show Calls Tryz.prog 33 #[.pointer none, .int .u64 1, .slice (some ⟨W.heap.size, 0, none⟩) a a] W1 _ from Ns.inner_ (rest := []) (Ns.none_ W1 W1.heap.size (fun _ => False)) (Nat.le_refl _) (fun i q => q.elim) none 0 1 a a W1.heap.size (zr a) (fun g q => (by cases q)) (fun i q => (by cases q)) y1 (Nat.le_refl _) (by omega) (fun i _ q => (by cases q)))
  have HW1 := Lib.hid hW1
  have B1 := Lib.hid b1
  clear hW1 b1 y1
  go_wp2_with fail
  rw [HW1.out]
  (with_reducible refine HI.out.mono ?_)
  rintro e w2 ⟨g1, rfl, n1, k1, _⟩
  obtain ⟨W3, hW3⟩ : ∃ V, w2.alloc (.cells (bvs (zr b)) 5) = V := ⟨_, rfl⟩
  have k12 : Kept (fun _ => False) W1 w2 := k1.mono (fun i q => by cases q)
  have b3 : Below w2.heap.size w2 W3 := by rw [← hW3]; exact (Below.refl _ _).alloc (Nat.le_refl _) _
  have y3 : Byt W3 W3.heap.size (some ⟨w2.heap.size, 0, none⟩) b (zr b) := by rw [← hW3]; exact (byt_zr w2 _ b (by unfold maxLen; omega)).more (by simp)
  have n3 := n1.below b3
  rw [List.nil_append] at n3
  have s3 : W1.heap.size ≤ W3.heap.size := Nat.le_trans k12.size b3.size
  have HL := Lib.hid (show Calls Tryz.prog 34 #[.pointer none, .int .u64 1, .slice (some ⟨w2.heap.size, 0, none⟩) b b, .int .u64 1] W3 _ from Ns.leaf_ (rest := []) n3 s3 (fun i q => q.elim) none 0 1 1 b b W3.heap.size (zr b) (fun g q => (by cases q)) (fun i q => (by cases q)) y3 (Nat.le_refl _) (by omega) (fun i _ q => (by cases q)))
  have HW3 := Lib.hid hW3
  have B3 := Lib.hid (show Below W.heap.size W W3 from (B1.out.trans (k12.below (Nat.le_trans (Nat.le_refl _) B1.out.size) (fun i q => q.elim))).trans (b3.mono (Nat.le_trans B1.out.size k12.size)))
  have S3 := Lib.hid s3
  clear hW3 b3 y3 n3 s3 n1 k1 k12 HI
  go_wp2_with fail
  rw [HW3.out]
  (with_reducible refine HL.out.mono ?_)
  rintro e w4 ⟨g2, rfl, n4, k4, _⟩
  have k34 : Kept (fun _ => False) W3 w4 := k4.mono (fun i q => by cases q)
  have s4 : W1.heap.size ≤ w4.heap.size := Nat.le_trans S3.out k34.size
  have B4 := Lib.hid (B3.out.trans (k34.below B3.out.size (fun i q => q.elim)))
  have HV := n4.setval (k := 0) rfl s4 (fun i q => q.elim) 1 1
  rw [show closN ⟨false, 1, zr a, 0, false, []⟩ 1 = 0 from rfl] at HV
  have HV := Lib.hid HV
  have S4 := Lib.hid s4
  clear n4 k4 k34 s4 HL
  go_wp2_with fail
  (with_reducible refine HV.out.mono ?_)
  rintro e w5 ⟨rfl, n5, k5⟩
  have n5' : Ns w5 W1.heap.size (fun _ => False) [(g1, ⟨false, 1, zr a, 1, true, []⟩), (g2, ⟨true, 1, zr b, 1, true, []⟩)] := n5
  have s5 : W1.heap.size ≤ w5.heap.size := Nat.le_trans S4.out k5.size
  have B5 := Lib.hid (B4.out.trans (k5.below B4.out.size (fun i q => Nat.le_trans B1.out.size q.1)))
  have HK := n5'.setkid (k := 0) (j := 1) rfl rfl s5 (fun i q => q.elim) 1 0 0 rfl
  rw [show setKN ⟨false, 1, zr a, 1, true, []⟩ 1 (some ⟨g2, 0, none⟩) = 0 from rfl] at HK
  have HK := Lib.hid HK
  have S5 := Lib.hid s5
  clear n5 n5' k5 s5 HV
  go_wp2_with fail
  (with_reducible refine HK.out.mono ?_)
  rintro e w6 ⟨rfl, n6, k6⟩
  have n6' : Ns w6 W1.heap.size (fun _ => False) [(g1, ⟨false, 1, zr a, 1, true, [(0, some ⟨g2, 0, none⟩)]⟩), (g2, ⟨true, 1, zr b, 1, true, []⟩)] := n6
  obtain ⟨L, hL⟩ : ∃ L, a + 1 + b = L := ⟨_, rfl⟩
  have B6 := Lib.hid (B5.out.trans (k6.below B5.out.size (fun i q => Nat.le_trans B1.out.size q.1)))
  have N6 := Lib.hid n6'
  have HLL := Lib.hid hL
  have ew : IntKind.i64.wrap ((a : Int) + 1 + (b : Int)) = (L : Int) := by rw [IntKind.wrap_i64]; omega
  have hL1 : L ≤ 140000 := by omega
  have mkL := make_bytes (P := Tryz.prog) Tryz.underlying42 info_u8 L (by omega)
  have p1 := two_prs w6 5 79 (zr a) (zr L) (zr_len a) (zr_len L) (by unfold maxLen; omega) (by unfold maxLen; omega) ⟨some ⟨w6.heap.size, 0, none⟩, a, a, zr a, 0⟩ ⟨some ⟨w6.heap.size + 1, 0, none⟩, L, L, zr L, 0⟩ rfl (.inl rfl) (.inr rfl)
  have p2 := two_prs w6 5 79 (zr L) (zr a) (zr_len L) (zr_len a) (by unfold maxLen; omega) (by unfold maxLen; omega) ⟨some ⟨w6.heap.size + 1, 0, none⟩, a, a, zr a, 0⟩ ⟨some ⟨w6.heap.size, 0, none⟩, L, L, zr L, 0⟩ rfl (.inr rfl) (.inl rfl)
  have hbld : ∀ (U : World) (p q : PV), PrM U none (w6.heap.size + 3) (some ⟨w6.heap.size + 1 + 1, 0, none⟩) 2 [p, q] → U.heap.size = w6.heap.size + 3 → Below w6.heap.size w6 U → p.key = zr a → q.key = zr L → p.val = 0 → q.val = 0 →
      Calls Tryz.prog 11 #[.pointer none, .int .u64 1, .slice (some ⟨w6.heap.size + 1 + 1, 0, none⟩) 2 2] U fun e w' => (L ≤ 65535 → ∃ g, e = .returned (.tuple #[.pointer (some ⟨g, 0, none⟩), .int .i64 0]) ∧ OTre w' (· < w'.heap.size) (some (twoT a b 0)) (some ⟨g, 0, none⟩)) ∧ (¬ L ≤ 65535 → e = .returned (.tuple #[.pointer none, .int .i64 8])) ∧ Below w6.heap.size w6 w' := by
    intro U p q hpm hsz hbU kp kq vp vq
    subst hL
    have hrel : rel 0 [p, q] = [(zr a, 0), (zr a ++ 0 :: zr b, 0)] := by rw [rel_zero]; simp only [List.map_cons, List.map_nil, kp, kq, vp, vq, zr_more]
    have hT : bTr 1 (a + 1 + b + 1) (rel 0 [p, q]) = some (twoT a b 0) := by
      unfold bTr
      rw [hrel, if_neg (by simp), cT_two]
    have hchk : chkV ([p, q].map PV.key) = if a + 1 + b ≤ 65535 then 0 else 8 := by
      simp only [List.map_cons, List.map_nil, kp, kq]
      exact chk_two a b
    have H1 := cbuild_any (o := 1) (by omega) (a + 1 + b + 1) 2 2 (w6.heap.size + 3) _ [p, q] none [] 0 U hpm (by omega) (by omega) (by omega) (fun z hz => by
      simp only [List.mem_cons, List.not_mem_nil, or_false] at hz
      rcases hz with rfl | rfl
      · rw [kp, zr_len]; omega
      · rw [kq, zr_len]; omega) (fun g q => by cases q) (by rw [hT]; simp [otn, tnT, Fo.tn])
    rw [hT, hchk] at H1
    refine H1.mono (fun e w' h => ?_)
    obtain ⟨h1, h2⟩ := h
    by_cases hl : a + 1 + b ≤ 65535
    · rw [if_pos hl] at h1
      obtain ⟨p, e1, e2, e3, _⟩ := h1 rfl
      obtain ⟨g, rfl, e2⟩ := e2
      exact ⟨fun _ => ⟨g, e1, OTre.here (S := fun i => U.heap.size ≤ i) ⟨g, rfl, e2⟩⟩, fun q => absurd hl q, hbU.trans (e3.below (by omega) (fun i q => by cases q))⟩
    · rw [if_neg hl] at h2
      obtain ⟨e1, e2⟩ := h2 (by decide)
      exact ⟨fun q => absurd q hl, fun _ => e1, hbU.trans (e2.mono (by omega))⟩
  have HBL1 := Lib.hid (hbld _ _ _ p1 (by simp) ((((Below.refl _ _).alloc (Nat.le_refl _) _).alloc (by simp) _).alloc (by simp; omega) _).drew rfl rfl rfl rfl)
  have HBL2 := Lib.hid (hbld _ _ _ p2 (by simp) ((((Below.refl _ _).alloc (Nat.le_refl _) _).alloc (by simp) _).alloc (by simp; omega) _).drew rfl rfl rfl rfl)
  clear n6 n6' k6 HK hL p1 p2 hbld
  go_upto_region 7 with fail
  go_cut [8, 9] (fun s8 s9 wc => Hid (L ≤ 65535 → ∃ g, s8 = .pointer (some ⟨g, 0, none⟩) ∧ s9 = .int .i64 0 ∧ OTre wc (· < wc.heap.size) (some (twoT a b 0)) (some ⟨g, 0, none⟩)) ∧ Hid (¬ L ≤ 65535 → s8 = .pointer none ∧ s9 = .int .i64 8) ∧ Hid (Below w6.heap.size w6 wc))
  case first =>
    by_cases hl : L ≤ 65535
    · go_region_held3 (fun w' => True) (exact trivial)
        (first
        | (go_at_call 11; (with_reducible refine HBL1.out.mono ?_); rintro e w7 ⟨q1, q2, q3⟩; obtain ⟨g, rfl, q4⟩ := q1 hl)
        | (go_at_call 11; (with_reducible refine HBL2.out.mono ?_); rintro e w7 ⟨q1, q2, q3⟩; obtain ⟨g, rfl, q4⟩ := q1 hl))
      all_goals
        have Q3 := Lib.hid q3
        have Q4 := Lib.hid q4
        clear q1 q2 q3 q4 HBL1 HBL2
        go_wp2_with fail
        go_meet
        exact ⟨Lib.hid (fun _ => ⟨g, rfl, rfl, Q4.out⟩), Lib.hid (fun q => absurd hl q), Q3⟩
    · go_region_held3 (fun w' => True) (exact trivial)
        (first
        | (go_at_call 11; (with_reducible refine HBL1.out.mono ?_); rintro e w7 ⟨q1, q2, q3⟩; obtain rfl := q2 hl)
        | (go_at_call 11; (with_reducible refine HBL2.out.mono ?_); rintro e w7 ⟨q1, q2, q3⟩; obtain rfl := q2 hl))
      all_goals
        have Q3 := Lib.hid q3
        clear q1 q2 q3 HBL1 HBL2
        go_wp2_with fail
        go_meet
        exact ⟨Lib.hid (fun q => absurd q hl), Lib.hid (fun _ => ⟨rfl, rfl⟩), Q3⟩
  case rest =>
    obtain ⟨C1, C2, C3⟩ := hcut
    clear HBL1 HBL2 mka mkb mkL ew
    have HN := Lib.hid (show ∀ W', Below w6.heap.size w6 W' → OTre W' (· < W'.heap.size) (some (twoT a b 1)) (some ⟨g1, 0, none⟩) from fun W' hb => (tre_two N6.out).below hb)
    have hle : 0 < W.heap.size := HTB.out.lt
    have HLE := Lib.hid hle
    clear hle
    by_cases hl : L ≤ 65535
    · obtain ⟨g, rfl, rfl, t1⟩ := C1.out hl
      have h10 := cfine_any _ _ wc t1 (fits_two 0 (by have := HLL.out; omega))
      rw [fine_two, decide_eq_true (show a + 1 + b ≤ 65535 by have := HLL.out; omega)] at h10
      have H10 := Lib.hid h10
      have T1 := Lib.hid t1
      clear t1 h10 C1 C2
      go_wp2_with fail
      (with_reducible refine H10.out.mono ?_)
      rintro e w8 ⟨rfl, k8⟩
      have c8 := C3.out.trans (k8.mono C3.out.size)
      have h11 := cfine_any _ _ w8 (HN.out w8 c8) (fits_two 1 (by have := HLL.out; omega))
      rw [fine_two, decide_eq_true (show a + 1 + b ≤ 65535 by have := HLL.out; omega)] at h11
      have H11 := Lib.hid h11
      have C8 := Lib.hid c8
      have T8 := Lib.hid (T1.out.below k8)
      clear h11 c8 k8 H10 T1
      go_wp2_with fail
      (with_reducible refine H11.out.mono ?_)
      rintro e w9 ⟨rfl, k9⟩
      have h12 := cdepth_any _ _ w9 (T8.out.below k9) (fits_two 0 (by have := HLL.out; omega))
      rw [deep_two] at h12
      have H12 := Lib.hid h12
      have C9 := Lib.hid (C8.out.trans (k9.mono C8.out.size))
      clear h12 k9 H11 T8
      go_wp2_with fail
      (with_reducible refine H12.out.mono ?_)
      rintro e w10 ⟨rfl, k10⟩
      have c10 := B6.out.trans ((C9.out.trans (k10.mono C9.out.size)).mono B6.out.size)
      have H13 := Lib.hid (calive_any w10 (HTB.out.below c10 HLE.out))
      have C10 := Lib.hid c10
      clear c10 k10 H12
      go_wp2_with fail
      (with_reducible refine H13.out.mono ?_)
      rintro e w11 ⟨rfl, k11⟩
      have C11 := Lib.hid (C10.out.trans (k11.mono C10.out.size))
      clear k11
      go_wp2_with fail
      go_ret
      exact ⟨rfl, C11.out⟩
    · obtain ⟨rfl, rfl⟩ := C2.out hl
      have h11 := cfine_any _ _ wc (HN.out wc C3.out) (fits_two 1 (by have := HLL.out; omega))
      rw [fine_two, decide_eq_false (show ¬ a + 1 + b ≤ 65535 by have := HLL.out; omega)] at h11
      have H11 := Lib.hid h11
      clear h11 C1 C2
      go_wp2_with fail
      (with_reducible refine H11.out.mono ?_)
      rintro e w8 ⟨rfl, k8⟩
      have c10 := B6.out.trans ((C3.out.trans (k8.mono C3.out.size)).mono B6.out.size)
      have H13 := Lib.hid (calive_any w8 (HTB.out.below c10 HLE.out))
      have C10 := Lib.hid c10
      clear c10 k8 H11
      go_wp2_with fail
      (with_reducible refine H13.out.mono ?_)
      rintro e w11 ⟨rfl, k11⟩
      have C11 := Lib.hid (C10.out.trans (k11.mono C10.out.size))
      clear k11
      go_wp2_with fail
      go_ret
      exact ⟨rfl, C11.out⟩
set_option maxRecDepth 100000 in
theorem lifted (os : Os) (started : os.Started) (H : Type) (enc : TypeId × Value → H) :
    ReturnsInHanded {} Tryz.checked os 8 .any (fun w args => (Rows.canonLongSpec.pre enc Tryz.prog Tryz.f8 [] false w args ∧ laidMetH Tryz.prog laid3 w) ∧ sizedMet enc Tryz.prog Tryz.f8 (OpenSpec.ofChange Rows.canonLongSpec) false w args) (Rows.canonLongSpec.post enc Tryz.prog Tryz.f8 false true false false) := by
  refine returnsInHanded_of_change_and (C := Tryz.checked) (X := fun w _ => laidMetH Tryz.prog laid3 w) (fun _ _ _ hh h => h.of_heap hh) own started (by kernel_rfl) Tryz.func8
    (ChangeSpec.witness_shaped (enc := enc) (C := Tryz.checked) (os := os) (X := fun w _ => laidMetH Tryz.prog laid3 w) false (World.doorLaid Tryz.prog 400 os) #[.int .u32 0, .int .u32 0] 8 rfl (World.shaped_of_RefB (by kernel_rfl) (by kernel_rfl)) (by kernel_rfl) (by kernel_rfl) (by kernel_rfl) (door_met3 os _)) ?_
  intro W base args ds gs before hval0 hW _ _ hL _
  have hval : ∀ (j : Nat) t v, Tryz.f8.params[j]? = some t → args[j]? = some v → Value.okWide Tryz.prog W .any base t v := hval0
  have hW' := hW
  obtain ⟨p, q, hA0, hV, rfl, hfz, hnd⟩ := hW
  have hA : DataW.TrodAll enc Tryz.prog W 0 (fun _ => true) true Tryz.f8.params.toList args.toList ds p := hA0
  rw [Tryz.params8] at hA hval
  obtain ⟨v0, vs0, d0, ds0, p0, q0, hargs, rfl, rfl, h0, r0⟩ := trodAll_cons hA
  obtain ⟨v1, vs1, d1, ds1, p1, q1, rfl, rfl, rfl, h1, r1⟩ := trodAll_cons r0
  obtain ⟨rfl, rfl, rfl⟩ := trodAll_nil r1
  obtain rfl : args = #[v0, v1] := by cases args; simp_all
  obtain ⟨rfl, rfl⟩ := trodVars_none hV
  have k0 := h0
  have lt0 : ∀ x ∈ p0, x.block < W.heap.size := by obtain ⟨m, hm⟩ := k0; exact DataW.trod_lt m _ _ _ hm
  have k1 := h1
  have lt1 : ∀ x ∈ p1, x.block < W.heap.size := by obtain ⟨m, hm⟩ := k1; exact DataW.trod_lt m _ _ _ hm
  obtain ⟨x0, rfl, _, _, wx0⟩ := open_int Tryz.underlying74 (hval 0 74 v0 rfl rfl) h0
  obtain ⟨x1, rfl, _, _, wx1⟩ := open_int Tryz.underlying74 (hval 1 74 v1 rfl rfl) h1
  clear hA0 hval0
  refine (walk x0 x1 W (of_laid3 hL) wx0 wx1).mono fun e W' ⟨he, bel⟩ => ?_
  subst he
  exact ⟨_, rfl, _, _, _, [], _, [], hW', trodAll_mk1 (shut_bool Tryz.underlying4 _), (trodAll_cons_mk (Below.trod laidOut (by kernel_rfl) (of_decide_eq_true (by kernel_rfl)) k0 bel lt0) (trodAll_cons_mk (Below.trod laidOut (by kernel_rfl) (of_decide_eq_true (by kernel_rfl)) k1 bel lt1) trodAll_mk0)), rfl, bel.frame _, fun h => by cases h⟩

set_option maxRecDepth 100000 in
theorem proved : Rows.CanonLongSaid :=
  OpenClaim.holds_of_wide 8 Tryz.f8 rfl rfl rfl rfl rfl rfl rfl ⟨rfl, rfl, rfl, rfl, rfl⟩ rfl rfl rfl rfl rfl (by kernel_rfl) Tryz.func8 (by kernel_rfl)
    (of_decide_eq_true (by kernel_rfl)) (by unfold Func.isWrapper; first | (rw [if_pos (by decide +kernel)]; kernel_rfl) | (rw [if_neg (by decide +kernel)]; exact ⟨rfl, rfl⟩))
    (fun os started H enc _ => lifted os started H enc)
set_option maxRecDepth 100000 in
theorem card_holds : Rows.CanonLongCardSaid :=
  Claim7.holds_tied_plain_at .later [] [.data, .data, .data] true _ false
    proved (fun _ h => by cases h) (by kernel_rfl) (fun _ h => by cases h) canonLong_row_tie rfl ⟨rfl, rfl⟩ (by kernel_rfl) rfl
    (fun f fn hf hfn => by
      obtain rfl : f = 8 := Option.some.inj ((show Tryz.prog.funcNamed "spunyarn/spunyarnlaw13.CanonLong" = some 8 by kernel_rfl).symm.trans hf) |>.symm
      obtain rfl : fn = Tryz.f8 := (Option.some.inj (Tryz.func8.symm.trans hfn)).symm
      exact ⟨by kernel_rfl, fun j t ht => by
        rw [Tryz.params8] at ht
        have hm : t ∈ [74] := by simpa using Array.mem_of_getElem? ht
        have hall : ([74].all fun u => !Tryz.prog.wantsStandIn u) = true := by kernel_rfl
        exact (show Tryz.prog.wantsStandIn t = false by simpa using List.all_eq_true.1 hall t hm)⟩)
    (by kernel_rfl)
end Go.Proofs.YtcfokkojoppmkaaGreatDoor.canonLong
