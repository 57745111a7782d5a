/-
  Proved here: a leaf of any length under bytes of any length is refused where that is more than 65535 bytes, and nothing may be put under any; how long the longest key is is told; nothing that came in is turned. The one condition is the card's own: the table of the powers of ten lies as the program's library lays it (tied).
-/
import Derived.Test.YtajpipaooaemdaaGreatDoorSubA
import Derived.Test.YtajpipaooaemdaaGreatDoorSubU
import Derived.Test.YtajpipaooaemdaaGreatDoorRow
import Derived.Test.YtajpipaooaemdaaGreatDoorEqs
import Derived.Test.YtajpipaooaemdaaGreatDoorNd
import Derived.Test.YtajpipaooaemdaaGreatDoorTie
import Derived.Test.YtajpipaooaemdaaGreatDoorCards
import Derived.SevenTiedAt
import Derived.Deep.DeepCutAuto
namespace Go.Proofs.YtajpipaooaemdaaGreatDoor.subLong
open Go.ChangeShapes Go.WideShapes Go.ChangeAt Go.RowKit

abbrev zr (a : Nat) : List UInt8 := List.replicate a 0
theorem zr_len (a : Nat) : (zr a).length = a := by simp [zr]
theorem make_u32 {P : Program} {t e : TypeId} (ht : P.underlying t = some (.slice e)) (hi : (P.info? e).map (fun i => (i.zero, i.size, i.bytes)) = some (some (.int .u8 0), 1, 1)) (k : Nat) (hk : k ≤ 281474976710656) (w : World) :
    (Instr.makeSlice t (.int .u32 (k : Int)) (.int .u32 (k : Int))).run P w = .ok (.slice (some ⟨w.heap.size, 0, none⟩) k k) (w.alloc (.cells (bvs (zr k)) e)) := by
  obtain ⟨i0, hi0, hz0, hz1, hz2⟩ := info_parts hi
  have h := run_make (P := P) w t e i0 (.int .u8 0) ht hi0 hz0 .u32 .u32 (k : Int) (k : Int) (by omega) (Int.le_refl _) (by rw [hz2]; omega) (by omega)
  rw [Int.toNat_natCast] at h
  have e1 : madeCells (Value.int .u8 0).cells (k * i0.size) = bvs (zr k) := by
    rw [hz1, Nat.mul_one]
    apply Array.ext'
    simp [madeCells, Value.cells, bvs, bv, zr, Nat.mod_one, List.map_const']
  rw [e1] at h
  exact h
theorem byt_zr (w : World) (e : TypeId) (k : Nat) (hk : k ≤ maxLen) : Byt (w.alloc (.cells (bvs (zr k)) e)) (w.heap.size + 1) (some ⟨w.heap.size, 0, none⟩) k (zr k) :=
  (Row.new w e (zr k)).byt (zr_len k) hk (by omega)

theorem leaf_is {q : PV} {T : Option (Nn × Fo)} (h : OCan [q] T) : ∃ x : Nn, T = some (x, .nil) ∧ x.part = q.key ∧ x.leaf = true := by
  cases T with
  | none => cases (show [q] = [] from h)
  | some T =>
    have h : Can [q] T := h
    have h1 := h.is_ (q.key.length + 1) (fun p hp => by
      rw [List.mem_singleton.1 hp]
      omega)
    have h2 : cT 1 (q.key.length + 1) ([q].map kvP) = (⟨true, 1, q.key, q.val, true⟩, .nil) := rfl
    rw [h2] at h1
    have e1 := congrArg Prod.fst h1
    have e2 := congrArg Prod.snd h1
    obtain ⟨x, k⟩ := T
    cases k with
    | nil =>
      refine ⟨x, rfl, ?_, ?_⟩
      · exact (congrArg Nn.part e1).symm
      · exact (congrArg Nn.leaf e1).symm
    | cons _ _ _ _ => cases e2
theorem leaf_tow {w : World} {S : Nat → Prop} {x : Nn} {p : Option Addr} (h : OTre w S (some (x, .nil)) p) : ∃ D, OTow w x.ow (fun _ => False) (some (x, .nil)) p D := by
  obtain ⟨g, e, be, A, ek, h1, h2, h3⟩ := h
  obtain rfl : ek = [] := h3
  exact ⟨fun i => be.all g i ∨ Pb A x.part i, g, e, TOw.leaf rfl h1 (fun i q => .inl q) (fun i q => .inr (.inr q))⟩
theorem leaf_lng {x : Nn} (hl : x.leaf = true) : olng (some (x, .nil)) = (x.part.length : Int) := by
  show lngT x .nil = _
  unfold lngT
  rw [hl]
  rfl
set_option maxRecDepth 100000 in
set_option maxHeartbeats 4000000 in
theorem walk (x0 x1 ow : Int) (W : World) (htb : Tb W) (wx0 : (Lit.int .u32 x0).wf = true) (wx1 : (Lit.int .u32 x1).wf = true) (wx2 : (Lit.int .u64 ow).wf = true) :
    Calls Tryz.prog 5 #[.int .u32 x0, .int .u32 x1, .int .u64 ow] W fun e w' => e = .returned (.bool true) ∧ Below W.heap.size W w' := by
  have hb0 : 0 ≤ x0 ∧ x0 ≤ 4294967295 := by simpa [Lit.wf, IntKind.min, IntKind.max, IntKind.signed, IntKind.bits] using wx0
  have hb1 : 0 ≤ x1 ∧ x1 ≤ 4294967295 := by simpa [Lit.wf, IntKind.min, IntKind.max, IntKind.signed, IntKind.bits] using wx1
  have hb2 : 0 ≤ ow ∧ ow ≤ 18446744073709551615 := by simpa [Lit.wf, IntKind.min, IntKind.max, IntKind.signed, IntKind.bits] using wx2
  have hle : 0 < W.heap.size := htb.lt
  have HAL := Lib.hid (fun (V : World) (h : Below W.heap.size W V) => salive_any V (htb.below h hle))
  clear htb wx0 wx1 wx2 hle
  go_enter Tryz.func5, Tryz.ntmps5
  go_upto_region 2 with fail
  obtain ⟨a, ha, ha2⟩ : ∃ a : Nat, x0 % 65536 = (a : Int) ∧ a < 65536 := ⟨(x0 % 65536).toNat, by omega, by omega⟩
  obtain ⟨b, hb, hb2⟩ : ∃ b : Nat, x1 % 70000 = (b : Int) ∧ b < 70000 := ⟨(x1 % 70000).toNat, by omega, by omega⟩
  rw [ha, hb]
  clear ha hb hb0 hb1
  go_upto_if 17 with fail
  go_cut [2] (fun v2 wc => ∃ o : Int, v2 = .int .u64 o ∧ 1 ≤ o ∧ Hid (wc = W))
  case first =>
    by_cases h0 : ow = 0
    · subst h0
      go_wp2_with fail
      go_meet
      exact ⟨1, rfl, by omega, Lib.hid rfl⟩
    · have e0 : (ow == 0) = false := by simpa using h0
      have h1 : 1 ≤ ow := by omega
      have H1 := Lib.hid h1
      clear h0 h1
      go_wp2_with fail
      go_meet
      exact ⟨ow, rfl, H1.out, Lib.hid rfl⟩
  case rest =>
    obtain ⟨o, rfl, ho, hw⟩ := hcut
    obtain rfl := hw.out
    have HO := Lib.hid ho
    have mka := make_u32 (P := Tryz.prog) Tryz.underlying23 info_u8 a (by omega)
    have mkb := make_u32 (P := Tryz.prog) Tryz.underlying23 info_u8 b (by omega)
    obtain ⟨W1, hW1⟩ : ∃ V, wc.alloc (.cells (bvs (zr a)) 5) = V := ⟨_, rfl⟩
    have b1 : Below wc.heap.size wc W1 := by rw [← hW1]; exact (Below.refl _ _).alloc (Nat.le_refl _) _
    have y1 : Byt W1 W1.heap.size (some ⟨wc.heap.size, 0, none⟩) a (zr a) := by rw [← hW1]; exact (byt_zr wc _ a (by unfold maxLen; omega)).more (by simp)
    have HL := Lib.hid (show Calls Tryz.prog 20 #[.pointer none, .int .u64 1, .slice (some ⟨wc.heap.size, 0, none⟩) a a, .int .u64 5] W1 _ from nleaf_any (rest := []) none 0 1 5 a a W1.heap.size (zr a) W1 (fun g q => (by cases q)) y1 (Nat.le_refl _) (by omega) (fun i _ q => (by cases q)))
    have HW1 := Lib.hid hW1
    have B1 := Lib.hid b1
    clear hW1 b1 y1 ho hw
    go_wp2_with fail
    try rw [HW1.out]
    (with_reducible refine HL.out.mono ?_)
    rintro e w2 ⟨g, rfl, ⟨be, A1, n1, n2, n3, n4⟩, _⟩
    have b2 : Below wc.heap.size wc w2 := B1.out.trans (n4.below B1.out.size (fun i e => by cases e))
    have htw : OTow w2 1 (fun _ => False) (some ((⟨true, 1, zr a, 5, true⟩ : Nn), Fo.nil)) (some ⟨g, 0, none⟩) (fun i => i < w2.heap.size) :=
      ⟨g, rfl, TOw.leaf rfl n1 (fun i hi => n1.lt hi) (fun i hi => .inr (n1.ltA hi))⟩
    have HTW := Lib.hid htw
    have B2 := Lib.hid b2
    have hcan : OCan [⟨none, 0, 0, zr a, 5⟩] (some ((⟨true, 1, zr a, 5, true⟩ : Nn), Fo.nil)) := Can.leaf 1 ⟨none, 0, 0, zr a, 5⟩
    have hlg : olng (some ((⟨true, 1, zr a, 5, true⟩ : Nn), Fo.nil)) = (a : Int) := by rw [leaf_lng rfl, zr_len]
    have hall : oall (fun q => q = 1) (some ((⟨true, 1, zr a, 5, true⟩ : Nn), Fo.nil)) := ⟨rfl, trivial⟩
    have HLA := Lib.hid (fun V (h : Below w2.heap.size w2 V) => show Calls Tryz.prog 16 #[.pointer (some ⟨g, 0, none⟩)] V fun e w' => e = .returned (.int .i64 (a : Int)) ∧ Below V.heap.size V w' from by
      have h1 := longest_any (OTow.onB HTW.out h) hall (OCan.gd hcan) (by rw [hlg]; omega)
      rwa [hlg] at h1)
    have HLN := Lib.hid (fun V => show Calls Tryz.prog 16 #[.pointer none] V fun e w' => e = .returned (.int .i64 0) ∧ Below V.heap.size V w' from
      longest_any (o := 1) (t := none) (D := fun _ => False) rfl trivial trivial (show (0 : Int) ≤ 1000000 by omega))
    obtain ⟨W3, hW3⟩ : ∃ V, w2.alloc (.cells (bvs (zr b)) 5) = V := ⟨_, rfl⟩
    have b3 : Below w2.heap.size w2 W3 := by rw [← hW3]; exact (Below.refl _ _).alloc (Nat.le_refl _) _
    have y3 : Byt W3 W3.heap.size (some ⟨w2.heap.size, 0, none⟩) b (zr b) := by rw [← hW3]; exact (byt_zr w2 _ b (by unfold maxLen; omega)).more (by simp)
    have HU := Lib.hid (show (a + b ≤ 65535 ∨ b = 0) → Calls Tryz.prog 18 #[.pointer (some ⟨g, 0, none⟩), .slice (some ⟨w2.heap.size, 0, none⟩) b b, .int .u64 o, .pointer none] W3 (TwPost (· < W3.heap.size) W3 (some ⟨g, 0, none⟩) none [] 0 (undS (zr b) [⟨none, 0, 0, zr a, 5⟩]) (zr b = [] ∨ (some ((⟨true, 1, zr a, 5, true⟩ : Nn), Fo.nil) : Option (Nn × Fo)) = none)) from fun hf =>
      under_any (m := none) (o1 := 1) HO.out (OTre.below (OTow.hereS HTW.out) b3) (OTow.onB HTW.out b3) hall (fun i q => q) hcan (fun p hp => by rw [List.mem_singleton.1 hp]; show (zr a).length ≤ _; rw [zr_len]; omega) (undS_kv (zr b) [⟨none, 0, 0, zr a, 5⟩]) (List.pairwise_singleton _ _) (fun g hg => by cases hg) (fun i hi => by cases hi) y3 (Nat.le_refl _) (Nat.le_refl _) (by omega) (by
        rcases hf with h | h
        · exact .inr (.inr (by rw [hlg]; omega))
        · exact .inr (.inl h)))
    have HUB := Lib.hid (show ¬ (a + b ≤ 65535 ∨ b = 0) → Calls Tryz.prog 18 #[.pointer (some ⟨g, 0, none⟩), .slice (some ⟨w2.heap.size, 0, none⟩) b b, .int .u64 o, .pointer none] W3 (fun e w' => e = .returned (.tuple #[.pointer none, .int .i64 8]) ∧ Below W3.heap.size W3 w') from fun hf =>
      under_big (o1 := 1) HO.out (OTow.onB HTW.out b3) hall (OCan.gd hcan) (by simp) (by rw [hlg]; omega) (by omega) (by rw [hlg]; omega) (by omega))
    have HW3 := Lib.hid hW3
    have B3 := Lib.hid b3
    have hza : IntKind.i64.wrap (a : Int) = (a : Int) := by rw [IntKind.wrap_i64]; omega
    have hzb : IntKind.i64.wrap (b : Int) = (b : Int) := by rw [IntKind.wrap_i64]; omega
    obtain ⟨ab, hab⟩ : ∃ z : Nat, a + b = z := ⟨_, rfl⟩
    have hzs : IntKind.i64.wrap ((a : Int) + (b : Int)) = (ab : Int) := by rw [IntKind.wrap_i64]; omega
    have hUN := Lib.hid (fun (V : World) (q : Option Addr) (k : Nat) (A5 : Option Addr) (hy : Byt V V.heap.size A5 b (zr b)) => show Calls Tryz.prog 18 #[.pointer none, .slice A5 b b, .int .u64 o, .pointer none] V (TwPost (· < V.heap.size) V none none [] 0 (undS (zr b) []) (zr b = [] ∨ (none : Option (Nn × Fo)) = none)) from
      under_any (m := none) (o1 := 1) (D := fun _ => False) HO.out rfl rfl trivial (fun i q => q) rfl (fun p hp => by cases hp) (undS_kv (zr b) []) List.Pairwise.nil (fun g hg => by cases hg) (fun i hi => by cases hi) hy (Nat.le_refl _) (Nat.le_refl _) (by omega) (.inl rfl))
    have HY := Lib.hid (fun (V : World) => (byt_zr V 5 b (by unfold maxLen; omega)).more (show V.heap.size + 1 ≤ (V.alloc (.cells (bvs (zr b)) 5)).heap.size by simp))
    by_cases hfit : a + b ≤ 65535
    · have H4 := Lib.hid (HU.out (.inl hfit))
      have hgt : decide ((65535 : Int) < (ab : Int)) = false := decide_eq_false (by omega)
      have HAB := Lib.hid hab
      clear htw b2 hcan hlg hall n1 n2 n3 n4 b3 y3 hW3 HU HUB hfit hab HL
      go_wp2_with fail
      try rw [HW3.out]
      (with_reducible refine H4.out.mono ?_)
      rintro e w4 ⟨p4, T4, j4, rfl, t4, c4, _, _, _, k4, _⟩
      have B4 := Lib.hid (B3.out.trans (k4.bel.mono B3.out.size))
      have U4 := Lib.hid (OTre.here t4)
      obtain ⟨x4, hx4, hp4, hf4⟩ := leaf_is (show OCan [⟨none, 0, 0, zr b ++ zr a, 5⟩] T4 from c4)
      have HX4 := Lib.hid (show ∀ V, Below w4.heap.size w4 V → Calls Tryz.prog 16 #[.pointer p4] V fun e w' => e = .returned (.int .i64 (ab : Int)) ∧ Below V.heap.size V w' from fun V hV => by
        subst hx4
        have h1 := OTre.below (OTre.here t4) hV
        obtain ⟨D, h2⟩ := leaf_tow h1
        have hl : olng (some (x4, Fo.nil)) = (ab : Int) := by
          rw [leaf_lng hf4, hp4]
          show ((zr b ++ zr a).length : Int) = _
          rw [List.length_append, zr_len, zr_len]
          have := HAB.out
          omega
        have h3 := longest_any h2 (o := x4.ow) ⟨rfl, trivial⟩ (OCan.gd c4) (by rw [hl]; have := HAB.out; omega)
        rwa [hl] at h3)
      obtain ⟨W5, hW5⟩ : ∃ V, w4.alloc (.cells (bvs (zr b)) 5) = V := ⟨_, rfl⟩
      have b5 : Below w4.heap.size w4 W5 := by rw [← hW5]; exact (Below.refl _ _).alloc (Nat.le_refl _) _
      have y5 := HY.out w4
      rw [hW5] at y5
      have H5 := Lib.hid (hUN.out W5 none 0 _ y5)
      have HW5 := Lib.hid hW5
      have B5 := Lib.hid b5
      clear t4 c4 k4 hx4 hp4 hf4 b5 y5 hW5 H4 hUN HY
      go_wp2_with fail
      try rw [HW5.out]
      (with_reducible refine H5.out.mono ?_)
      rintro e w6 ⟨p6, T6, j6, rfl, _, _, q6, _, _, k6, _⟩
      obtain ⟨rfl, _⟩ := q6 (.inr (by trivial))
      have B46 := Lib.hid (B5.out.trans (k6.bel.mono B5.out.size))
      have B26 := Lib.hid (B4.out.trans (B46.out.mono B4.out.size))
      have H7 := Lib.hid (HLA.out w6 B26.out)
      clear q6 k6 H5
      go_wp2_with fail
      (with_reducible refine H7.out.mono ?_)
      rintro e w7 ⟨rfl, b7⟩
      have B47 := Lib.hid (B46.out.trans (b7.mono B46.out.size))
      have H8 := Lib.hid (HLN.out w7)
      clear b7 H7
      go_wp2_with fail
      (with_reducible refine H8.out.mono ?_)
      rintro e w8 ⟨rfl, b8⟩
      have B48 := Lib.hid (B47.out.trans (b8.mono B47.out.size))
      have H9 := Lib.hid (HX4.out w8 B48.out)
      clear b8 H8
      go_wp2_with fail
      (with_reducible refine H9.out.mono ?_)
      rintro e w9 ⟨rfl, b9⟩
      have B49 := Lib.hid (B48.out.trans (b9.mono B48.out.size))
      have BW9 := Lib.hid (B2.out.trans ((B4.out.trans (B49.out.mono B4.out.size)).mono B2.out.size))
      have H10 := Lib.hid (HAL.out w9 BW9.out)
      clear b9 H9
      go_wp2_with fail
      (with_reducible refine H10.out.mono ?_)
      rintro e w10 ⟨rfl, b10⟩
      have B10 := Lib.hid (BW9.out.trans (b10.mono BW9.out.size))
      clear b10 H10
      go_wp2_with fail
      go_ret
      exact ⟨rfl, B10.out⟩
    · have H4 := Lib.hid (HUB.out (fun h => by rcases h with h | h <;> omega))
      have hgt : decide ((65535 : Int) < (ab : Int)) = true := decide_eq_true (by omega)
      clear htw b2 hcan hlg hall n1 n2 n3 n4 b3 y3 hW3 HU HUB hfit hab HL
      go_wp2_with fail
      try rw [HW3.out]
      (with_reducible refine H4.out.mono ?_)
      rintro e w4 ⟨rfl, b4⟩
      have B4 := Lib.hid (B3.out.trans (b4.mono B3.out.size))
      obtain ⟨W5, hW5⟩ : ∃ V, w4.alloc (.cells (bvs (zr b)) 5) = V := ⟨_, rfl⟩
      have b5 : Below w4.heap.size w4 W5 := by rw [← hW5]; exact (Below.refl _ _).alloc (Nat.le_refl _) _
      have y5 := HY.out w4
      rw [hW5] at y5
      have H5 := Lib.hid (hUN.out W5 none 0 _ y5)
      have HW5 := Lib.hid hW5
      have B5 := Lib.hid b5
      clear b4 b5 y5 hW5 H4 hUN HY
      go_wp2_with fail
      try rw [HW5.out]
      (with_reducible refine H5.out.mono ?_)
      rintro e w6 ⟨p6, T6, j6, rfl, _, _, q6, _, _, k6, _⟩
      obtain ⟨rfl, _⟩ := q6 (.inr (by trivial))
      have B46 := Lib.hid (B5.out.trans (k6.bel.mono B5.out.size))
      have B26 := Lib.hid (B4.out.trans (B46.out.mono B4.out.size))
      have H7 := Lib.hid (HLA.out w6 B26.out)
      clear q6 k6 H5
      go_wp2_with fail
      (with_reducible refine H7.out.mono ?_)
      rintro e w7 ⟨rfl, b7⟩
      have B27 := Lib.hid (B26.out.trans (b7.mono B26.out.size))
      have H8 := Lib.hid (HLN.out w7)
      clear b7 H7
      go_wp2_with fail
      (with_reducible refine H8.out.mono ?_)
      rintro e w8 ⟨rfl, b8⟩
      have B28 := Lib.hid (B27.out.trans (b8.mono B27.out.size))
      have BW9 := Lib.hid (B2.out.trans (B28.out.mono B2.out.size))
      have H10 := Lib.hid (HAL.out w8 BW9.out)
      clear b8 H8
      go_wp2_with fail
      (with_reducible refine H10.out.mono ?_)
      rintro e w10 ⟨rfl, b10⟩
      have B10 := Lib.hid (BW9.out.trans (b10.mono BW9.out.size))
      clear b10 H10
      go_wp2_with fail
      go_ret
      exact ⟨rfl, B10.out⟩
set_option maxRecDepth 100000 in
theorem lifted (os : Os) (started : os.Started) (H : Type) (enc : TypeId × Value → H) :
    ReturnsInHanded {} Tryz.checked os 5 .any (fun w args => (Rows.subLongSpec.pre enc Tryz.prog Tryz.f5 [] false w args ∧ laidMetH Tryz.prog laid3 w) ∧ sizedMet enc Tryz.prog Tryz.f5 (OpenSpec.ofChange Rows.subLongSpec) false w args) (Rows.subLongSpec.post enc Tryz.prog Tryz.f5 false true false false) := by
  refine returnsInHanded_of_change_and (C := Tryz.checked) (X := fun w _ => laidMetH Tryz.prog laid3 w) (fun _ _ _ hh h => h.of_heap hh) own started (by kernel_rfl) Tryz.func5
    (ChangeSpec.witness_shaped (enc := enc) (C := Tryz.checked) (os := os) (X := fun w _ => laidMetH Tryz.prog laid3 w) false (World.doorLaid Tryz.prog 400 os) #[.int .u32 0, .int .u32 0, .int .u64 0] 8 rfl (World.shaped_of_RefB (by kernel_rfl) (by kernel_rfl)) (by kernel_rfl) (by kernel_rfl) (by kernel_rfl) (door_met3 os _)) ?_
  intro W base args ds gs before hval0 hW _ _ hL _
  have hval : ∀ (j : Nat) t v, Tryz.f5.params[j]? = some t → args[j]? = some v → Value.okWide Tryz.prog W .any base t v := hval0
  have hW' := hW
  obtain ⟨p, q, hA0, hV, rfl, hfz, hnd⟩ := hW
  have hA : DataW.TrodAll enc Tryz.prog W 0 (fun _ => true) true Tryz.f5.params.toList args.toList ds p := hA0
  rw [Tryz.params5] at hA hval
  obtain ⟨v0, vs0, d0, ds0, p0, q0, hargs, rfl, rfl, h0, r0⟩ := trodAll_cons hA
  obtain ⟨v1, vs1, d1, ds1, p1, q1, rfl, rfl, rfl, h1, r1⟩ := trodAll_cons r0
  obtain ⟨v2, vs2, d2, ds2, p2, q2, rfl, rfl, rfl, h2, r2⟩ := trodAll_cons r1
  obtain ⟨rfl, rfl, rfl⟩ := trodAll_nil r2
  obtain rfl : args = #[v0, v1, v2] := by cases args; simp_all
  obtain ⟨rfl, rfl⟩ := trodVars_none hV
  have k0 := h0
  have lt0 : ∀ x ∈ p0, x.block < W.heap.size := by obtain ⟨m, hm⟩ := k0; exact DataW.trod_lt m _ _ _ hm
  have k1 := h1
  have lt1 : ∀ x ∈ p1, x.block < W.heap.size := by obtain ⟨m, hm⟩ := k1; exact DataW.trod_lt m _ _ _ hm
  have k2 := h2
  have lt2 : ∀ x ∈ p2, x.block < W.heap.size := by obtain ⟨m, hm⟩ := k2; exact DataW.trod_lt m _ _ _ hm
  obtain ⟨x0, rfl, _, _, wx0⟩ := open_int Tryz.underlying49 (hval 0 49 v0 rfl rfl) h0
  obtain ⟨x1, rfl, _, _, wx1⟩ := open_int Tryz.underlying49 (hval 1 49 v1 rfl rfl) h1
  obtain ⟨x2, rfl, _, _, wx2⟩ := open_int Tryz.underlying24 (hval 2 24 v2 rfl rfl) h2
  clear hA0 hval0
  refine (walk x0 x1 x2 W (of_laid3 hL) wx0 wx1 wx2).mono fun e W' ⟨he, bel⟩ => ?_
  subst he
  exact ⟨_, rfl, _, _, _, [], _, [], hW', trodAll_mk1 (shut_bool Tryz.underlying4 _), (trodAll_cons_mk (Below.trod laidOut (by kernel_rfl) (of_decide_eq_true (by kernel_rfl)) k0 bel lt0) (trodAll_cons_mk (Below.trod laidOut (by kernel_rfl) (of_decide_eq_true (by kernel_rfl)) k1 bel lt1) (trodAll_cons_mk (Below.trod laidOut (by kernel_rfl) (of_decide_eq_true (by kernel_rfl)) k2 bel lt2) trodAll_mk0))), rfl, bel.frame _, fun h => by cases h⟩

set_option maxRecDepth 100000 in
theorem proved : Rows.SubLongSaid :=
  OpenClaim.holds_of_wide 5 Tryz.f5 rfl rfl rfl rfl rfl rfl rfl ⟨rfl, rfl, rfl, rfl, rfl⟩ rfl rfl rfl rfl rfl (by kernel_rfl) Tryz.func5 (by kernel_rfl)
    (of_decide_eq_true (by kernel_rfl)) (by unfold Func.isWrapper; first | (rw [if_pos (by decide +kernel)]; kernel_rfl) | (rw [if_neg (by decide +kernel)]; exact ⟨rfl, rfl⟩))
    (fun os started H enc _ => lifted os started H enc)
set_option maxRecDepth 100000 in
theorem card_holds : Rows.SubLongCardSaid :=
  Claim7.holds_tied_plain_at .later [] [.data, .data, .data] true _ false
    proved (fun _ h => by cases h) (by kernel_rfl) (fun _ h => by cases h) subLong_row_tie rfl ⟨rfl, rfl⟩ (by kernel_rfl) rfl
    (fun f fn hf hfn => by
      obtain rfl : f = 5 := Option.some.inj ((show Tryz.prog.funcNamed "spunyarn/spunyarnlaw18.SubLong" = some 5 by kernel_rfl).symm.trans hf) |>.symm
      obtain rfl : fn = Tryz.f5 := (Option.some.inj (Tryz.func5.symm.trans hfn)).symm
      exact ⟨by kernel_rfl, fun j t ht => by
        rw [Tryz.params5] at ht
        have hm : t ∈ [49, 24] := by simpa using Array.mem_of_getElem? ht
        have hall : ([49, 24].all fun u => !Tryz.prog.wantsStandIn u) = true := by kernel_rfl
        exact (show Tryz.prog.wantsStandIn t = false by simpa using List.all_eq_true.1 hall t hm)⟩)
    (by kernel_rfl)
end Go.Proofs.YtajpipaooaemdaaGreatDoor.subLong
