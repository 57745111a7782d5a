/-
  Proved here: what a row of any room holds behind any steps is gone through by Next, rising, and by Prev, the other way round, and what is done with a copy does not turn it; nothing that came in is turned. No condition.
-/
import Derived.Test.YtcaacpjkpjhehaaRow
import Derived.Test.YtcaacpjkpjhehaaCut
import Derived.Test.YtcaacpjkpjhehaaSmAlive
import Derived.Deep.CutBlock
import Derived.Deep.DeepCutAuto
namespace Go.Proofs.Ytcaacpjkpjhehaa.smallWalks
open Go.ChangeShapes Go.WideShapes Go.ChangeAt Go.RowKit

set_option maxRecDepth 100000 in
set_option maxHeartbeats 4000000 in
theorem walk (x : Int) (A : Option Addr) (n c : Nat) (ss : List Stp) (w : World) (wx : (Lit.int .i64 x).wf = true) (hs : Sts w w.heap.size A n ss) (nc : n ≤ c) :
    Calls Try.prog 4 #[.int .i64 x, .slice A n c] w fun e w' => e = .returned (.bool true) ∧ Below w.heap.size w w' := by
  have hmx : n ≤ 9223372036854775807 := by have := hs.2.1; unfold maxLen at this; omega
  by_cases hr : x < 1 ∨ 16 < x
  · have C := Lib.hid (snew_no w x hr)
    clear hs
    go_enter Try.func4, Try.ntmps4
    go_wp2_with fail
    (with_reducible refine C.out.mono ?_)
    rintro e w' ⟨rfl, rfl⟩
    go_wp2_with fail
    (with_reducible refine (salive_any _).mono ?_)
    rintro e w2 ⟨rfl, h2⟩
    have B2 := Lib.hid h2
    clear h2
    go_wp2
    go_ret
    exact ⟨rfl, B2.out⟩
  · obtain ⟨r, rfl⟩ : ∃ r : Nat, x = (r : Int) := ⟨x.toNat, by omega⟩
    have C := Lib.hid (snew_yes w r (by omega) (by omega))
    have HS := Lib.hid hs
    have HR := Lib.hid (show 1 ≤ r ∧ r ≤ 16 by omega)
    clear hs hr wx
    go_enter Try.func4, Try.ntmps4
    go_wp2_with fail
    (with_reducible refine C.out.mono ?_)
    rintro e W1 ⟨rfl, h1, b1⟩
    have S1 := Lib.hid h1
    have B1 := Lib.hid b1
    clear h1 b1 C
    go_upto_region 4 with fail
    go_cut [36, 37, 38] (fun s36 s37 s38 wc => ∃ m : Nat, m ≤ n ∧ m ≤ 60 ∧ s36 = .slice A m c ∧ s37 = .int .i64 m ∧ s38 = .int .i64 0 ∧ wc = W1)
    case first =>
      by_cases h60 : n ≤ 60
      all_goals
        go_wp2_with fail
        go_meet
      · exact ⟨n, Nat.le_refl _, h60, rfl, rfl, rfl, rfl⟩
      · exact ⟨60, by omega, Nat.le_refl _, rfl, rfl, rfl, rfl⟩
    case rest =>
      obtain ⟨m, hmn, hm60, rfl, rfl, rfl, rfl⟩ := hcut
      go_upto_block 0 with fail
      go_cut [38] (fun s38 wc => ∃ es : List Ent, Hid (Sm wc (w.heap.size + 1) w.heap.size r es) ∧ Hid (Below w.heap.size w wc))
      case first =>
        go_wp2_with fail
        go_loopw [38] (fun i wr => ∃ (k : Nat) (es : List Ent), k ≤ m ∧ i = .int .i64 k ∧ Hid (Sm wr (w.heap.size + 1) w.heap.size r es) ∧ Hid (Below w.heap.size w wr)) (fun i _ => m - (intOf i).toNat)
        case atStart => exact ⟨0, [], Nat.zero_le _, rfl, S1, B1⟩
        case round =>
          obtain ⟨k, es, hk, rfl, SK, BK⟩ := hrel
          by_cases h1 : k < m
          · obtain ⟨ad, s, rfl, hadb, hsk, hx, hd0, hd1, hd2⟩ := (HS.out.below BK.out).at_ (k := k) (by omega)
            have hd1' : wr.cell? ⟨(ad.add (k * 3)).block, (ad.add (k * 3)).off + 1, none⟩ = some (.int .u8 (s.b.toNat : Int)) := by
              have e : (⟨(ad.add (k * 3)).block, (ad.add (k * 3)).off + 1, none⟩ : Addr) = ad.add (k * 3 + 1) := by rw [← add_of_add]; rfl
              rw [e]; exact hd1
            have hd2' : wr.cell? ⟨(ad.add (k * 3)).block, (ad.add (k * 3)).off + 2, none⟩ = some (.int .i64 s.x) := by
              have e : (⟨(ad.add (k * 3)).block, (ad.add (k * 3)).off + 2, none⟩ : Addr) = ad.add (k * 3 + 2) := by rw [← add_of_add]; rfl
              rw [e]; exact hd2
            have hA := Lib.hid ((Below.refl wr.heap.size wr).alloc (Nat.le_refl _) (.cells #[.bool s.d, .int .u8 (s.b.toNat : Int), .int .i64 s.x] 35))
            clear hsk hd1 hd2
            go_wp2_with fail
            (with_reducible refine (sset_any (SK.out.below hA.out) s.b s.x _ rfl).mono ?_)
            rintro e w2 ⟨rfl, h2, k2⟩
            have S2 := Lib.hid h2
            have Z2 := Lib.hid ((BK.out.trans (hA.out.mono BK.out.size)).trans (k2.below (B := w.heap.size) (Nat.le_trans BK.out.size hA.out.size) (fun q hq => by omega)))
            clear h2 k2 hd0 hd1' hd2'
            go_wp2
            exact ⟨⟨k + 1, _, by omega, by go_num, S2, Z2⟩, by simp [intOf]; omega⟩
          · obtain rfl : k = m := by omega
            go_wp2_with fail
            go_meet
            exact ⟨es, SK, BK⟩
      case rest =>
        obtain ⟨es, SK, BK⟩ := hcut
        obtain ⟨V0, hV0⟩ : ∃ V0, V0 = wc := ⟨_, rfl⟩
        rw [← hV0] at SK BK ⊢
        clear hV0 wc
        have CC := Lib.hid (scopy_any SK.out)
        go_wp2_with fail
        (with_reducible refine CC.out.mono ?_)
        rintro e W2 ⟨rfl, h2, b2⟩
        have R2 := Lib.hid (SK.out.below b2)
        have C2 := Lib.hid h2
        have Z2 := Lib.hid (BK.out.trans (b2.mono BK.out.size))
        have UP := Lib.hid SK.out.up
        have GLT := Lib.hid SK.out.lt
        have N16 : es.length ≤ 16 := Nat.le_trans SK.out.few SK.out.most
        obtain ⟨g2, hg2⟩ : ∃ g2, V0.heap.size = g2 := ⟨_, rfl⟩
        rw [hg2] at C2 GLT ⊢
        have GL2 := Lib.hid C2.out.lt
        clear h2 b2 CC hg2 SK BK S1 B1 HS
        obtain ⟨N, hN⟩ : ∃ N, es.length = N := ⟨_, rfl⟩
        rw [hN] at N16
        have HN := Lib.hid hN
        clear hN
        go_upto_block 2 with fail
        go_cut [10, 12] (fun s10 s12 wc => ∃ Au cu, s10 = .slice Au N cu ∧ Hid (Mine wc W2.heap.size 5 (.slice Au N cu) N (es.map (·.1))) ∧ Hid (Below W2.heap.size W2 wc))
        case first =>
          go_wp2_with fail
          go_loopg [10, 12] N (fun q s10 s12 wr => ∃ k : Nat, k + q = N ∧ s12 = .int .i64 (upA es k : Int) ∧ Hid (Mine wr W2.heap.size 5 s10 k ((es.take k).map (·.1))) ∧ Hid (Below W2.heap.size W2 wr))
          case atStart => exact ⟨0, by omega, by simp [upA], Mine.nil _ _ _, Below.refl _ _⟩
          case round =>
            obtain ⟨k, hk, rfl, MK, BK⟩ := hrel
            have RR := Lib.hid (R2.out.below BK.out)
            by_cases ha : upA es k < 256
            · by_cases hkN : k < N
              · obtain ⟨e, he⟩ : ∃ e, es[k]? = some e := ⟨es[k]'(by have := HN.out; omega), List.getElem?_eq_getElem _⟩
                have C1 := Lib.hid (show Calls Try.prog 15 #[.pointer (some ⟨w.heap.size + 1, 0, none⟩), .int .i64 (upA es k : Int)] wr fun e' w' => e' = .returned (.tuple #[.int .u8 (e.1.toNat : Int), .int .i64 e.2, .bool true]) ∧ Still wr w' from by
                  have := snext_any RR.out.rd (upA es k : Int) (by omega)
                  rw [next_upA UP.out (by have := HN.out; omega) (by omega), he] at this
                  exact this)
                have C3 := Lib.hid (fun q => show Calls Try.prog 16 #[.pointer (some ⟨w.heap.size + 1, 0, none⟩), .int .u8 (e.1.toNat : Int)] (wr.drewN q) fun e' w' => e' = .returned (.tuple #[.int .i64 e.2, .bool true]) ∧ Still (wr.drewN q) w' from by
                  have := sget_z (RR.out.drewN q) e.1 _ rfl
                  rw [(has_own UP.out he).1, (has_own UP.out he).2] at this
                  exact this)
                have hle : ¬ ((e.1.toNat : Int) < (upA es k : Int)) := by
                  have := (UP.out.split (upA es k)).2 k e (by rw [pos_upA UP.out (by have := HN.out; omega)]; exact Nat.le_refl _) he
                  omega
                have EU := Lib.hid (upA_succ he)
                have ET := Lib.hid (show (es.take (k + 1)).map (·.1) = (es.take k).map (·.1) ++ [e.1] by rw [List.take_add_one, he]; simp)
                have hlt := e.1.toNat_lt
                have ew : IntKind.i64.wrap ((e.1.toNat : Int) + 1) = (e.1.toNat : Int) + 1 := by rw [IntKind.wrap_i64]; omega
                have ha' : (upA es k : Int) < 256 := by omega
                clear he
                generalize hap : upA es k = a at C1 hle ha ha'
                clear hap
                go_wp2_with fail
                (with_reducible refine C1.out.mono ?_)
                rintro e' w' ⟨rfl, q1, rfl⟩
                go_wp2_with fail
                (with_reducible refine (C3.out _).mono ?_)
                rintro e' w' ⟨rfl, q2, rfl⟩
                go_wp2_with (
                  at_builtin
                  refine wpList_append_byt _ rfl (.tmp 81) (.tmp 83) _ rfl Try.underlying43 info_u8 W2.heap.size _ k ((es.take k).map (·.1)) rfl (by repeat (first | exact MK.out | apply Mine.alloc | apply Mine.drewN)) (wr.heap.size + 1) (some ⟨wr.heap.size, 0, none⟩) 1 1 [e.1] rfl (byt_one _ _ rfl) (by omega) (by have := BK.out.size; simp; omega) ?_
                  intro v1 w1 hm1 hg1 _
                  have HM1 := Lib.hid hm1
                  have HG1 := Lib.hid hg1
                  clear hm1 hg1)
                have HB1 : Hid (Below W2.heap.size W2 w1) := by
                  refine Lib.hid (Below.grown ?_ HG1.out ?_ (fun j hj => (MK.out.lt j hj).1))
                  · refine Below.alloc ?_ (by have := BK.out.size; simpa using this) _
                    repeat (first | exact BK.out | apply below_drewN)
                  · have := BK.out.size; simp; omega
                go_roundg (gk - 1)
                case measure => omega
                case rel => exact ⟨k + 1, by omega, by rw [EU.out]; go_num, by rw [ET.out]; exact HM1, HB1⟩
              · obtain rfl : k = N := by omega
                have C1 := Lib.hid (show Calls Try.prog 15 #[.pointer (some ⟨w.heap.size + 1, 0, none⟩), .int .i64 (upA es k : Int)] wr fun e' w' => e' = .returned (.tuple #[.int .u8 0, .int .i64 0, .bool false]) ∧ Still wr w' from by
                  have := snext_any RR.out.rd (upA es k : Int) (by omega)
                  rw [next_upA UP.out (by have := HN.out; omega) (by omega), List.getElem?_eq_none (by have := HN.out; omega)] at this
                  exact this)
                have ha' : (upA es k : Int) < 256 := by omega
                obtain ⟨Au, cu, hu10⟩ := MK.out.slice
                subst hu10
                have MF : Hid (Mine wr W2.heap.size 5 (.slice Au k cu) k (es.map (·.1))) := by have := MK.out; rw [List.take_of_length_le (by have := HN.out; omega)] at this; exact this
                clear MK
                generalize hap : upA es k = a at C1 ha ha'
                clear hap
                go_wp2_with fail
                (with_reducible refine C1.out.mono ?_)
                rintro e' w' ⟨rfl, q1, rfl⟩
                go_wp2_with fail
                go_meet
                exact ⟨Au, cu, rfl, MF.out.drewN q1, below_drewN BK.out q1⟩
            · obtain rfl : k = N := by have := upA_end UP.out (by have := HN.out; omega) ha; have := HN.out; omega
              have ha' : ¬ ((upA es k : Int) < 256) := by omega
              obtain ⟨Au, cu, hu10⟩ := MK.out.slice
              subst hu10
              have MF : Hid (Mine wr W2.heap.size 5 (.slice Au k cu) k (es.map (·.1))) := by have := MK.out; rw [List.take_of_length_le (by have := HN.out; omega)] at this; exact this
              clear MK
              generalize hap : upA es k = a at ha ha'
              clear hap
              go_wp2_with fail
              go_meet
              exact ⟨Au, cu, rfl, MF, BK⟩
        case rest =>
          obtain ⟨Au, cu, rfl, MU, BU⟩ := hcut
          obtain ⟨V2, hV2⟩ : ∃ V2, V2 = wc := ⟨_, rfl⟩
          rw [← hV2] at MU BU ⊢
          clear hV2 wc
          have R3 := Lib.hid (R2.out.below BU.out)
          go_upto_block 4 with fail
          go_cut [11, 18] (fun s11 s18 wc => ∃ Ad cd, s11 = .slice Ad N cd ∧ Hid (Mine wc V2.heap.size 5 (.slice Ad N cd) N (es.reverse.map (·.1))) ∧ Hid (Below V2.heap.size V2 wc))
          case first =>
            go_wp2_with fail
            go_loopg [11, 18] N (fun q s11 s18 wr => ∃ k : Nat, k + q = N ∧ s18 = .int .i64 (dnA es k) ∧ Hid (Mine wr V2.heap.size 5 s11 k ((es.reverse.take k).map (·.1))) ∧ Hid (Below V2.heap.size V2 wr))
            case atStart => exact ⟨0, by omega, by simp [dnA], Mine.nil _ _ _, Below.refl _ _⟩
            case round =>
              obtain ⟨k, hk, rfl, MK, BK⟩ := hrel
              have RR := Lib.hid (R3.out.below BK.out)
              have hin := dnA_in es k
              by_cases ha : 0 ≤ dnA es k
              · by_cases hkN : k < N
                · obtain ⟨e, he⟩ : ∃ e, es[es.length - (k + 1)]? = some e := ⟨es[es.length - (k + 1)]'(by have := HN.out; omega), List.getElem?_eq_getElem _⟩
                  have C1 := Lib.hid (show Calls Try.prog 17 #[.pointer (some ⟨w.heap.size + 1, 0, none⟩), .int .i64 (dnA es k)] wr fun e' w' => e' = .returned (.tuple #[.int .u8 (e.1.toNat : Int), .int .i64 e.2, .bool true]) ∧ Still wr w' from by
                    have := sprev_any RR.out.rd (dnA es k) (by omega)
                    rw [prev_dnA UP.out (by have := HN.out; omega) ha, if_neg (by have := HN.out; omega), he] at this
                    exact this)
                  have hle : ¬ (dnA es k < (e.1.toNat : Int)) := by
                    have := (UP.out.split ((dnA es k).toNat + 1)).1 (es.length - (k + 1)) e (by rw [pos_dnA UP.out (by have := HN.out; omega) ha]; have := HN.out; omega) he
                    omega
                  have EU := Lib.hid (dnA_succ he)
                  have ET := Lib.hid (show (es.reverse.take (k + 1)).map (·.1) = (es.reverse.take k).map (·.1) ++ [e.1] by
                    rw [List.take_add_one, List.getElem?_reverse (by have := HN.out; omega), show es.length - 1 - k = es.length - (k + 1) by omega, he]; simp)
                  have hlt := e.1.toNat_lt
                  have ew : IntKind.i64.wrap ((e.1.toNat : Int) - 1) = (e.1.toNat : Int) - 1 := by rw [IntKind.wrap_i64]; omega
                  clear he
                  generalize hap : dnA es k = a at C1 hle ha hin
                  clear hap
                  go_wp2_with fail
                  (with_reducible refine C1.out.mono ?_)
                  rintro e' w' ⟨rfl, q1, rfl⟩
                  go_wp2_with (
                    at_builtin
                    refine wpList_append_byt _ rfl (.tmp 103) (.tmp 105) _ rfl Try.underlying43 info_u8 V2.heap.size _ k ((es.reverse.take k).map (·.1)) rfl (by repeat (first | exact MK.out | apply Mine.alloc | apply Mine.drewN)) (wr.heap.size + 1) (some ⟨wr.heap.size, 0, none⟩) 1 1 [e.1] rfl (byt_one _ _ rfl) (by omega) (by have := BK.out.size; simp; omega) ?_
                    intro v1 w1 hm1 hg1 _
                    have HM1 := Lib.hid hm1
                    have HG1 := Lib.hid hg1
                    clear hm1 hg1)
                  have HB1 : Hid (Below V2.heap.size V2 w1) := by
                    refine Lib.hid (Below.grown ?_ HG1.out ?_ (fun j hj => (MK.out.lt j hj).1))
                    · refine Below.alloc ?_ (by have := BK.out.size; simpa using this) _
                      repeat (first | exact BK.out | apply below_drewN)
                    · have := BK.out.size; simp; omega
                  go_roundg (gk - 1)
                  case measure => omega
                  case rel => exact ⟨k + 1, by omega, by rw [EU.out], by rw [ET.out]; exact HM1, HB1⟩
                · obtain rfl : k = N := by omega
                  have C1 := Lib.hid (show Calls Try.prog 17 #[.pointer (some ⟨w.heap.size + 1, 0, none⟩), .int .i64 (dnA es k)] wr fun e' w' => e' = .returned (.tuple #[.int .u8 0, .int .i64 0, .bool false]) ∧ Still wr w' from by
                    have := sprev_any RR.out.rd (dnA es k) (by omega)
                    rw [prev_dnA UP.out (by have := HN.out; omega) ha, if_pos (by have := HN.out; omega)] at this
                    exact this)
                  obtain ⟨Ad, cd, hu⟩ := MK.out.slice
                  subst hu
                  have MF : Hid (Mine wr V2.heap.size 5 (.slice Ad k cd) k (es.reverse.map (·.1))) := by have := MK.out; rw [List.take_of_length_le (by have := HN.out; simp; omega)] at this; exact this
                  clear MK
                  generalize hap : dnA es k = a at C1 ha hin
                  clear hap
                  go_wp2_with fail
                  (with_reducible refine C1.out.mono ?_)
                  rintro e' w' ⟨rfl, q1, rfl⟩
                  go_wp2_with fail
                  go_meet
                  exact ⟨Ad, cd, rfl, MF.out.drewN q1, below_drewN BK.out q1⟩
              · obtain rfl : k = N := by have := dnA_end UP.out (by have := HN.out; omega) (show dnA es k < 0 by omega); have := HN.out; omega
                obtain ⟨Ad, cd, hu⟩ := MK.out.slice
                subst hu
                have MF : Hid (Mine wr V2.heap.size 5 (.slice Ad k cd) k (es.reverse.map (·.1))) := by have := MK.out; rw [List.take_of_length_le (by have := HN.out; simp; omega)] at this; exact this
                clear MK
                generalize hap : dnA es k = a at ha hin
                clear hap
                go_wp2_with fail
                go_meet
                exact ⟨Ad, cd, rfl, MF, BK⟩
          case rest =>
            obtain ⟨Ad, cd, rfl, MD, BD⟩ := hcut
            obtain ⟨V3, hV3⟩ : ∃ V3, V3 = wc := ⟨_, rfl⟩
            rw [← hV3] at MD BD ⊢
            clear hV3 wc
            have B23 := Lib.hid (BU.out.trans (BD.out.mono BU.out.size))
            have R4 := Lib.hid (R2.out.below B23.out)
            have C4 := Lib.hid (C2.out.below B23.out)
            have CL := Lib.hid (show Calls Try.prog 18 #[.pointer (some ⟨w.heap.size + 1, 0, none⟩)] V3 fun e w' => e = .returned (.int .i64 (N : Int)) ∧ w' = V3 from by
              have := len_any R4.out.rd
              rw [HN.out] at this
              exact this)
            -- where the bytes lie, each of the two rows
            have HU := Lib.hid (fun (k : Nat) (e : Ent) (he : es[k]? = some e) => show ∃ gu : Nat, Au = some ⟨gu, 0, none⟩ ∧ g2 + 1 < gu ∧ gu < V3.heap.size ∧ V3.cell? ⟨gu, k, none⟩ = some (.int .u8 (e.1.toNat : Int)) from by
              have hk : k < N := by have := (List.getElem?_eq_some_iff.1 he).1; have := HN.out; omega
              obtain ⟨gu, cap, hv, hb, hl⟩ := World.ownsRow.form MU.out (by omega)
              injection hv with hv1 hv2 hv3
              subst hv1 hv3
              have hc := MU.out.cell (j := k) (u := e.1) (by rw [List.getElem?_map, he]; rfl)
              have := GL2.out
              exact ⟨gu, rfl, by omega, Nat.lt_of_lt_of_le hl BD.out.size, (BD.out.cell (p := ⟨gu, k, none⟩) hl).trans hc⟩)
            have HD := Lib.hid (fun (k : Nat) (e : Ent) (he : es[k]? = some e) => show ∃ gd : Nat, Ad = some ⟨gd, 0, none⟩ ∧ g2 + 1 < gd ∧ gd < V3.heap.size ∧ V3.cell? ⟨gd, N - 1 - k, none⟩ = some (.int .u8 (e.1.toNat : Int)) from by
              have hk : k < es.length := (List.getElem?_eq_some_iff.1 he).1
              have hn := HN.out
              obtain ⟨gd, cap, hv, hb, hl⟩ := World.ownsRow.form MD.out (by omega)
              injection hv with hv1 hv2 hv3
              subst hv1 hv3
              have hc := MD.out.cell (j := N - 1 - k) (u := e.1) (by
                rw [List.getElem?_map, List.getElem?_reverse (by omega), show es.length - 1 - (N - 1 - k) = k by omega, he]; rfl)
              have := GL2.out
              have := BU.out.size
              exact ⟨gd, rfl, by omega, hl, hc⟩)
            have ZV := Lib.hid (Z2.out.trans (B23.out.mono Z2.out.size))
            clear MU MD BU BD B23 R2 C2 Z2 R3
            go_wp2_with fail
            (with_reducible refine CL.out.mono ?_)
            rintro e w' ⟨rfl, rfl⟩
            clear CL
            go_wp2_with fail
            go_loopw [124] (fun i wr => ∃ k : Nat, k ≤ N ∧ i = .int .i64 k ∧ Hid (Sm wr g2 (g2 + 1) r (es.drop k)) ∧ Hid (Kept (fun q => q = g2 ∨ q = g2 + 1) w' wr)) (fun i _ => N - (intOf i).toNat)
            case atStart => exact ⟨0, Nat.zero_le _, rfl, by rw [List.drop_zero]; exact C4, Kept.refl _ _⟩
            case round =>
              obtain ⟨k, hk, rfl, SK, KK⟩ := hrel
              by_cases h1 : k < N
              · obtain ⟨e, he⟩ : ∃ e, es[k]? = some e := ⟨es[k]'(by have := HN.out; omega), List.getElem?_eq_getElem _⟩
                obtain ⟨gu, rfl, hu1, hu2, hu3⟩ := HU.out k e he
                obtain ⟨gd, rfl, hd1, hd2, hd3⟩ := HD.out k e he
                have cu1 : wr.cell? ⟨gu, k, none⟩ = some (.int .u8 (e.1.toNat : Int)) := (KK.out.cell (p := ⟨gu, k, none⟩) hu2 (by show ¬ (gu = g2 ∨ gu = g2 + 1); omega)).trans hu3
                have cd1 : wr.cell? ⟨gd, N - 1 - k, none⟩ = some (.int .u8 (e.1.toNat : Int)) := (KK.out.cell (p := ⟨gd, N - 1 - k, none⟩) hd2 (by show ¬ (gd = g2 ∨ gd = g2 + 1); omega)).trans hd3
                obtain ⟨_, hh, hdr⟩ := drop_first UP.out he
                have CD := Lib.hid (show Calls Try.prog 9 #[.pointer (some ⟨g2, 0, none⟩), .int .u8 (e.1.toNat : Int)] wr fun e' w' => e' = .returned (.int .i64 0) ∧ Sm w' g2 (g2 + 1) r (es.drop (k + 1)) ∧ Kept (fun q => q = g2 ∨ q = g2 + 1) wr w' from by
                  have := sdrop_has SK.out e.1 hh
                  rw [hdr] at this
                  exact this)
                have e1 : IntKind.i64.wrap ((N : Int) - 1) = (N : Int) - 1 := by rw [IntKind.wrap_i64]; omega
                have e2 : IntKind.i64.wrap ((N : Int) - 1 - (k : Int)) = (N : Int) - 1 - (k : Int) := by rw [IntKind.wrap_i64]; omega
                have e3 : (0 : Int) ≤ (N : Int) - 1 - (k : Int) := by omega
                have e4 : (N : Int) - 1 - (k : Int) < (N : Int) := by omega
                have e5 : ((N : Int) - 1 - (k : Int)).toNat = N - 1 - k := by omega
                clear hh hdr hu3 hd3 he
                go_wp2_with fail
                (with_reducible refine CD.out.mono ?_)
                rintro e' w2 ⟨rfl, h2, k2⟩
                have S2 := Lib.hid h2
                have K2 := Lib.hid (KK.out.trans k2)
                clear h2 k2
                go_wp2
                exact ⟨⟨k + 1, by omega, by go_num, S2, K2⟩, by simp [intOf]; omega⟩
              · obtain rfl : k = N := by omega
                have CL2 := Lib.hid (show Calls Try.prog 18 #[.pointer (some ⟨g2, 0, none⟩)] wr fun e w' => e = .returned (.int .i64 0) ∧ w' = wr from by
                  have := len_any SK.out.rd
                  rw [List.drop_of_length_le (by have := HN.out; omega)] at this
                  exact this)
                have R5 := Lib.hid (R4.out.kept KK.out (by have := GLT.out; omega) (by have := GLT.out; omega))
                have CL := Lib.hid (show Calls Try.prog 18 #[.pointer (some ⟨w.heap.size + 1, 0, none⟩)] wr fun e w' => e = .returned (.int .i64 (k : Int)) ∧ w' = wr from by
                  have := len_any R5.out.rd
                  rw [HN.out] at this
                  exact this)
                have ZW := Lib.hid (ZV.out.trans (KK.out.below (B := w.heap.size) ZV.out.size (fun q hq => by have := GLT.out; omega)))
                go_wp2_with fail
                (with_reducible refine CL2.out.mono ?_)
                rintro e w2 ⟨rfl, rfl⟩
                go_wp2_with fail
                (with_reducible refine CL.out.mono ?_)
                rintro e w2 ⟨rfl, rfl⟩
                go_wp2_with fail
                (with_reducible refine (salive_any _).mono ?_)
                rintro e w3 ⟨rfl, h3⟩
                have B3 := Lib.hid (ZW.out.trans (h3.mono ZW.out.size))
                clear h3
                go_wp2
                go_ret
                exact ⟨rfl, B3.out⟩

set_option maxRecDepth 100000 in
theorem lifted (os : Os) (started : os.Started) (H : Type) (enc : TypeId × Value → H) :
    ReturnsInHanded {} Try.checked os 4 .any (Rows.smallWalksSpec.pre6 enc Try.prog Try.f4 Rows.smallWalksRow.domain false) (Rows.smallWalksSpec.post enc Try.prog Try.f4 false true false false) := by
  refine returnsInHanded_of_change (C := Try.checked) own started (by kernel_rfl) Try.func4
    (ChangeSpec.witness6 (enc := enc) (C := Try.checked) false ⟨#[], #[.int .i64 0, .slice none 0 0], []⟩ 8 (by kernel_rfl) (by kernel_rfl) (by kernel_rfl) (by kernel_rfl)) ?_
  intro W base args ds gs before hval0 hW hcnd _
  have hval : ∀ (j : Nat) t v, Try.f4.params[j]? = some t → args[j]? = some v → Value.okWide Try.prog W .any base t v := hval0
  have hW' := hW
  obtain ⟨p, q, hA0, hV, rfl, hfz, hnd⟩ := hW
  have hA : DataW.TrodAll enc Try.prog W 0 (fun _ => true) true Try.f4.params.toList args.toList ds p := hA0
  rw [Try.params4] at hA hval
  obtain ⟨v0, vs0, d0, ds0, p0, q0, hargs, rfl, rfl, h0, r0⟩ := trodAll_cons hA
  obtain ⟨v1, vs1, d1, ds1, p1, q1, rfl, rfl, rfl, h1, r1⟩ := trodAll_cons r0
  obtain ⟨rfl, rfl, rfl⟩ := trodAll_nil r1
  obtain rfl : args = #[v0, v1] := by cases args; simp_all
  obtain ⟨rfl, rfl⟩ := trodVars_none hV
  have k0 := h0
  have lt0 : ∀ x ∈ p0, x.block < W.heap.size := by obtain ⟨m, hm⟩ := k0; exact DataW.trod_lt m _ _ _ hm
  have k1 := h1
  have lt1 : ∀ x ∈ p1, x.block < W.heap.size := by obtain ⟨m, hm⟩ := k1; exact DataW.trod_lt m _ _ _ hm
  obtain ⟨x0, rfl, _, _, wx0⟩ := open_int Try.underlying3 (hval 0 3 v0 rfl rfl) h0
  obtain ⟨A1, n1, c1, l1, rfl, b1, nc1⟩ := open_sts (hval 1 22 v1 rfl rfl) h1
  clear hA0 hval0
  refine (walk x0 A1 n1 c1 l1 W wx0 b1 nc1).mono fun e W' ⟨he, bel⟩ => ?_
  subst he
  exact ⟨_, rfl, _, _, _, [], _, [], hW', trodAll_mk1 (shut_bool Try.underlying4 _), (trodAll_cons_mk (Below.trod laidOut (by kernel_rfl) (of_decide_eq_true (by kernel_rfl)) k0 bel lt0) (trodAll_cons_mk (Below.trod laidOut (by kernel_rfl) (of_decide_eq_true (by kernel_rfl)) k1 bel lt1) trodAll_mk0)), rfl, bel.frame _, fun h => by cases h⟩

set_option maxRecDepth 100000 in
theorem proved : Rows.SmallWalksSaid :=
  OpenClaim.holds_of_wide 4 Try.f4 rfl rfl rfl rfl rfl rfl rfl ⟨rfl, rfl, rfl, rfl, rfl⟩ rfl rfl rfl rfl rfl (by kernel_rfl) Try.func4 (by kernel_rfl)
    (of_decide_eq_true (by kernel_rfl)) (by unfold Func.isWrapper; first | (rw [if_pos (by decide +kernel)]; kernel_rfl) | (rw [if_neg (by decide +kernel)]; exact ⟨rfl, rfl⟩))
    (fun os started H enc _ => lifted os started H enc)
end Go.Proofs.Ytcaacpjkpjhehaa.smallWalks
