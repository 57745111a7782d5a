/-
  Proved here: in any tree that is made node above node, canonical or not, what is looked for is found just if it is among its pairs; nothing that came in is turned. No condition.
-/
import Derived.Test.YtfmkhafpbfmadaaGreatFnAlive
import Derived.Test.YtfmkhafpbfmadaaGreatFnCan
import Derived.Test.YtfmkhafpbfmadaaGreatFnRawP
import Derived.Test.YtfmkhafpbfmadaaGreatFnBss
import Derived.Test.YtfmkhafpbfmadaaGreatRow
import Derived.Deep.RegionHeld3
namespace Go.Proofs.YtfmkhafpbfmadaaGreat.findRaws
open Go.ChangeShapes Go.WideShapes Go.ChangeAt Go.RowKit

theorem getD_of {α β : Type} {f : α → β} {l : List α} {j : Nat} {a : α} (d : β) (h : l[j]? = some a) : (l.map f).getD j d = f a := by
  rw [List.getD_eq_getElem?_getD, List.getElem?_map, h]
  rfl
theorem getD_at {α : Type} {l : List α} {j : Nat} {a : α} (d : α) (h : l[j]? = some a) : l.getD j d = a := by
  rw [List.getD_eq_getElem?_getD, h]
  rfl
theorem map_len {rs : List Bv} (h : ∀ r ∈ rs, r.l.length ≤ 300) (j : Nat) : ((rs.map Bv.l).getD j []).length ≤ 300 := by
  rcases hx : rs[j]? with _ | r
  · rw [List.getD_eq_getElem?_getD, List.getElem?_map, hx]
    exact Nat.zero_le _
  · rw [getD_of [] hx]
    exact h r (List.mem_of_getElem? hx)
theorem tmod_nat (k m : Nat) : Int.tmod (k : Int) (m : Int) = ((k % m : Nat) : Int) := by
  rw [Int.tmod_eq_emod_of_nonneg (by omega)]
  exact (Int.natCast_emod k m).symm
theorem inner_es (p : List UInt8) (b : UInt8) (t : Th) (ht : t.isSome = true) : nSetKid ⟨false, 1, p, 0, false, []⟩ 1 b t = ⟨false, 1, p, 0, false, [(b, t)]⟩ := by
  unfold nSetKid
  rw [set_one]
  simp [mineB, ht]
theorem top_val (p : List UInt8) (i : Nat) (es : List Ent) (h : i % 2 = 0) : nSetVal ⟨false, 1, p, 0, false, es⟩ 1 ((i : Int) + 1) = (rwTop p i).nd es := by
  simp [nSetVal, mineB, rwTop, Nn.nd, h]
theorem top_not (p : List UInt8) (i : Nat) (es : List Ent) (h : ¬ i % 2 = 0) : (⟨false, 1, p, 0, false, es⟩ : Nd) = (rwTop p i).nd es := by
  simp [rwTop, Nn.nd, h]
theorem top_kid (p : List UInt8) (i : Nat) (es : List Ent) (c : UInt8) (t : Th) (ht : t.isSome = true) : nSetKid ((rwTop p i).nd es) 1 c t = (rwTop p i).nd (setE es c t) := by
  simp [nSetKid, mineB, rwTop, Nn.nd, ht]
theorem rw_end {w : World} {lo hi u g : Nat} {x : Nn} {k : Fo} {p : List UInt8} {b : UInt8} {i : Nat} {es : List Ent} (hu : Upn w lo hi u ((rwTop p i).nd es)) (ht : Tre w (· < w.heap.size) x k g)
    (h : (¬ i % 3 = 0 ∧ es = [(b, some ⟨g, 0, none⟩)]) ∨ (i % 3 = 0 ∧ ∃ lf, es = setE [(b, some ⟨g, 0, none⟩)] (b + 1) (some ⟨lf, 0, none⟩) ∧ Tre w (· < w.heap.size) (rwLeaf p i) .nil lf)) :
    Tre w (· < w.heap.size) (rwTop p i) (rwKids b x k p i) u := by
  refine hu.tre ?_
  unfold rwKids
  rcases h with ⟨h, rfl⟩ | ⟨h, lf, rfl, hl⟩
  · rw [if_neg h]
    exact ht.one b (r := .nil) rfl
  · rw [if_pos h]
    by_cases hb : b = 255
    · subst hb
      rw [if_pos rfl, set_low]
      exact hl.one 0 (ht.one 255 (r := .nil) rfl)
    · rw [if_neg hb, set_two hb]
      exact ht.one b (hl.one (b + 1) (r := .nil) rfl)
theorem wrap_u8 (b : UInt8) : IntKind.u8.wrap ((b.toNat : Int) + 1) = ((b + 1).toNat : Int) := by
  have := b.toNat_lt
  rw [IntKind.wrap_u8, UInt8.toNat_add]
  show ((b.toNat : Int) + 1) % 256 = (((b.toNat + 1) % 256 : Nat) : Int)
  omega
/-- A tree's pair is one of a node that is come by. -/
theorem list_way2 {T : Nn × Fo} {p : KV} (h : p ∈ olist (some T)) : ∃ v ∈ otvis (some T), v.way = p.1 ∧ v.x.has = true := by
  have e := tvis_list T.1 T.2 [] 1
  have h2 : (p.1, [Value.int .u64 p.2]) ∈ listV (tvis T.1 T.2 [] 1) := by rw [e]; exact List.mem_map.2 ⟨p, h, rfl⟩
  unfold listV at h2
  obtain ⟨v, hv, hx⟩ := List.mem_filterMap.1 h2
  split at hx
  · rename_i hh
    injection hx with hx
    injection hx with hx _
    exact ⟨v, hv, hx, hh⟩
  · cases hx
/-- The last one of a tree's pairs by a key. -/
theorem getK_succ {L : List KV} {j : Nat} {q : KV} (h : L[j]? = some q) (l : List UInt8) : getK (L.take (j + 1)) l = if q.1 = l then (q.2, true) else getK (L.take j) l := by
  rw [List.take_add_one, h]
  unfold getK
  rw [List.foldl_append]
  rfl
set_option maxRecDepth 100000 in
set_option maxHeartbeats 16000000 in
theorem walk (A : Option Addr) (n c : Nat) (rs : List Bv) (A1 : Option Addr) (n1 c1 : Nat) (bs : List UInt8) (A2 : Option Addr) (n2 c2 : Nat) (key : List UInt8) (W : World) (ha : Bss W W.heap.size A n rs) (hnc : n ≤ c) (hb1 : Byt W W.heap.size A1 n1 bs) (_ : n1 ≤ c1) (hb2 : Byt W W.heap.size A2 n2 key) (h2c : n2 ≤ c2) :
    Calls Tryz.prog 6 #[.slice A n c, .slice A1 n1 c1, .slice A2 n2 c2] W fun e w' => e = .returned (.bool true) ∧ Below W.heap.size W w' := by
  have hn9 : n ≤ 9223372036854775807 := by have := ha.2.1; unfold maxLen at this; omega
  have hn19 : n1 ≤ 9223372036854775807 := by have := hb1.2.1; unfold maxLen at this; omega
  have hn29 : n2 ≤ 9223372036854775807 := by have := hb2.2.1; unfold maxLen at this; omega
  have HA := Lib.hid (fun V (h : Below W.heap.size W V) => ha.below h)
  have HB1 := Lib.hid (fun V (h : Below W.heap.size W V) => hb1.below h)
  have HB2 := Lib.hid (fun V (h : Below W.heap.size W V) => hb2.below h)
  have HC := Lib.hid (And.intro hnc h2c)
  have HL := Lib.hid (And.intro ha.1 (And.intro hb1.1 hb2.1))
  clear ha hb1 hb2 hnc h2c
  go_enter Tryz.func6, Tryz.ntmps6
  by_cases h0 : n = 0
  · subst h0
    have HAL := Lib.hid (falive_any W)
    go_wp2_with fail
    (with_reducible refine HAL.out.mono ?_)
    rintro e wz ⟨rfl, bz⟩
    have BZ := Lib.hid (bz)
    clear bz HAL
    go_wp2_with fail
    go_ret
    exact ⟨rfl, BZ.out⟩
  have hn0 : ((n : Int) == 0) = false := by rw [beq_eq_false_iff_ne]; omega
  by_cases h20 : 20 < n
  · clear h0
    have HAL := Lib.hid (falive_any W)
    go_wp2_with fail
    (with_reducible refine HAL.out.mono ?_)
    rintro e wz ⟨rfl, bz⟩
    have BZ := Lib.hid (bz)
    clear bz HAL
    go_wp2_with fail
    go_ret
    exact ⟨rfl, BZ.out⟩
  by_cases hnb : n1 < n
  · clear h0
    have HAL := Lib.hid (falive_any W)
    go_wp2_with fail
    (with_reducible refine HAL.out.mono ?_)
    rintro e wz ⟨rfl, bz⟩
    have BZ := Lib.hid (bz)
    clear bz HAL
    go_wp2_with fail
    go_ret
    exact ⟨rfl, BZ.out⟩
  by_cases hk6 : 600 < n2
  · clear h0
    have HAL := Lib.hid (falive_any W)
    go_wp2_with fail
    (with_reducible refine HAL.out.mono ?_)
    rintro e wz ⟨rfl, bz⟩
    have BZ := Lib.hid (bz)
    clear bz HAL
    go_wp2_with fail
    go_ret
    exact ⟨rfl, BZ.out⟩
  have H0 := Lib.hid h0
  clear h0
  go_wp2_with fail
  go_loopw [44] (fun i wr => ∃ k : Nat, k ≤ n ∧ i = .int .i64 (k : Int) ∧ Hid (∀ j r, j < k → rs[j]? = some r → r.l.length ≤ 300) ∧ Still W wr) (fun i _ => n - (intOf i).toNat)
  case atStart => exact ⟨0, Nat.zero_le _, rfl, Lib.hid (fun j r hj => by omega), Still.refl _⟩
  case round =>
    obtain ⟨k, hk, rfl, HS, q, rfl⟩ := hrel
    have BQ := Lib.hid (show Below W.heap.size W (W.drewN q) from Still.below ⟨q, rfl⟩ _)
    by_cases h1 : k < n
    · obtain ⟨ad, r, rfl, e1, c0, b1, _⟩ := (HA.out _ BQ.out).at_ h1
      have HE1 := Lib.hid e1
      have HRL := Lib.hid b1.1
      have hr9 : r.n ≤ 9223372036854775807 := by have := b1.2.1; unfold maxLen at this; omega
      clear e1 b1
      by_cases hl3 : 300 < r.n
      · have HAL := Lib.hid (falive_any (W.drewN q))
        go_wp2_with fail
        (with_reducible refine HAL.out.mono ?_)
        rintro e wz ⟨rfl, bz⟩
        have BZ := Lib.hid (BQ.out.trans (bz.mono BQ.out.size))
        clear bz HAL
        go_wp2_with fail
        go_ret
        exact ⟨rfl, BZ.out⟩
      · have HS1 := Lib.hid (show ∀ j r', j < k + 1 → rs[j]? = some r' → r'.l.length ≤ 300 from fun j r' hj hr' => by
          rcases Nat.lt_or_ge j k with h | h
          · exact HS.out j r' h hr'
          · have : j = k := by omega
            subst this
            rw [HE1.out] at hr'
            injection hr' with hr'
            subst hr'
            have := HRL.out
            omega)
        go_wp2_with fail
        exact ⟨⟨k + 1, by omega, by go_num, HS1, ⟨q, rfl⟩⟩, by simp [intOf]; omega⟩
    · have hln : ∀ r ∈ rs, r.l.length ≤ 300 := fun r hr => by
        obtain ⟨j, hj⟩ := List.mem_iff_getElem?.1 hr
        have h3 := (List.getElem?_eq_some_iff.1 hj).1
        have h4 := HL.out.1
        exact HS.out j r (by omega) hj
      have HLN := Lib.hid hln
      obtain ⟨ps, hps⟩ : ∃ ps, rs.map Bv.l = ps := ⟨_, rfl⟩
      have HPS := Lib.hid hps
      have HPL := Lib.hid (show ∀ j, (ps.getD j []).length ≤ 300 from fun j => by rw [← hps]; exact map_len hln j)
      obtain ⟨ad, r0, rfl, e0, c0, b0, _⟩ := (HA.out _ BQ.out).at_ (show 0 < n by have := H0.out; omega)
      have c0' : (W.drewN q).cell? ad = some (.slice r0.A r0.n r0.c) := by rw [show ad = ad.add 0 by simp [Addr.add]]; exact c0
      have HE0 := Lib.hid (show ps.getD 0 [] = r0.l by rw [← hps]; exact getD_of [] e0)
      have HLF := Lib.hid (show Calls Tryz.prog 23 #[.pointer none, .int .u64 1, .slice r0.A r0.n r0.c, .int .u64 0] (W.drewN q) (MkPost (W.drewN q) none [] 0 ⟨true, 1, r0.l, 0, true, []⟩ none []) from nleaf_any (rest := []) none 0 1 0 r0.n r0.c W.heap.size r0.l (W.drewN q) (fun g q => (by cases q)) b0 BQ.out.size (by have := b0.1; have := hln r0 (List.mem_of_getElem? e0); omega) (fun i _ q => (by cases q)))
      have HTL := Lib.hid (fun V (h : Below W.heap.size W V) => (HA.out V h).tail HC.out.1)
      have h1n : (1 : Int) ≤ (n : Int) := by have := H0.out; omega
      clear e0 b0 hln hps HS
      have hkn : n = k := by omega
      subst hkn
      have hsl := fun V => show (Instr.slice 45 (.slice (some ad) n c) (some (.int .i64 1)) none none).run Tryz.prog V = .ok (.slice (cutA (some ad) 1 c 1) (n - 1) (c - 1)) V from slc_from (P := Tryz.prog) Tryz.underlying45 size_bytes (some ad) n c 1 (by have := H0.out; omega) V
      go_wp2_with fail
      (with_reducible refine HLF.out.mono ?_)
      rintro e w1 ⟨g0, rfl, nw0, _⟩
      obtain ⟨u0, b01⟩ := Upn.of_new nw0 (Nat.zero_le _)
      have HT0 := Lib.hid (show Tre w1 (· < w1.heap.size) (rwT ps bs 0).1 (rwT ps bs 0).2 g0 from by
        have e3 : (rwT ps bs 0).1.nd [] = ⟨true, 1, r0.l, 0, true, []⟩ := by
          show (⟨true, 1, ps.getD 0 [], 0, true, []⟩ : Nd) = _
          rw [HE0.out]
        rw [← e3] at u0
        exact u0.tre (k := .nil) rfl)
      have B1 := Lib.hid (BQ.out.trans (b01.mono BQ.out.size))
      obtain ⟨m, hm⟩ : ∃ m, n - 1 = m := ⟨_, rfl⟩
      obtain ⟨At, hAt⟩ : ∃ a, cutA (some ad) 1 c 1 = a := ⟨_, rfl⟩
      obtain ⟨ct, hct⟩ : ∃ a, c - 1 = a := ⟨_, rfl⟩
      have HM := Lib.hid hm
      rw [hm, hAt] at HTL
      rw [hm, hAt, hct] at hsl
      clear u0 b01 nw0 HLF c0 c0' hm hAt hct
      have hm9 : m ≤ 9223372036854775807 := by have := HM.out; omega
      go_wp2_with fail
      go_loopw [9, 60] (fun v9 i wr => ∃ k g : Nat, k ≤ m ∧ v9 = .pointer (some ⟨g, 0, none⟩) ∧ i = .int .i64 (k : Int) ∧ Hid (Tre wr (· < wr.heap.size) (rwT ps bs k).1 (rwT ps bs k).2 g ∧ Below W.heap.size W wr)) (fun _ i _ => m - (intOf i).toNat)
      case atStart => exact ⟨0, g0, Nat.zero_le _, rfl, rfl, Lib.hid ⟨HT0.out, B1.out⟩⟩
      case round =>
        obtain ⟨k, g, hk, rfl, rfl, HX⟩ := hrel
        have HT := Lib.hid HX.out.1
        have HBW := Lib.hid HX.out.2
        clear HX
        by_cases h1 : k < m
        · obtain ⟨adt, r, hadt, e1, c1', b1, hrc⟩ := (HTL.out wr HBW.out).at_ h1
          subst hadt
          rw [List.getElem?_drop] at e1
          have HRL := Lib.hid (show r.n ≤ 300 by have := b1.1; have := HLN.out r (List.mem_of_getElem? e1); omega)
          have HBR := Lib.hid (fun V (h : Below wr.heap.size wr V) => b1.below (h.mono HBW.out.size))
          obtain ⟨adb, ub, hA1, _, e2, _⟩ := (HB1.out wr HBW.out).at_ (show k < n1 by have := HM.out; omega)
          subst hA1
          have CB := Lib.hid (fun V (h : Below wr.heap.size wr V) => show V.cell? (adb.add k) = some (.int .u8 (ub.toNat : Int)) from by
            obtain ⟨ad', u', q1, _, q2, q3⟩ := (HB1.out V (HBW.out.trans (h.mono HBW.out.size))).at_ (show k < n1 by have := HM.out; omega)
            injection q1 with q1
            subst q1
            rw [e2] at q2
            injection q2 with q2
            rw [q2]
            exact q3)
          have HNX := Lib.hid (show (rwT ps bs (k + 1)).1 = rwTop r.l k ∧ (rwT ps bs (k + 1)).2 = rwKids ub (rwT ps bs k).1 (rwT ps bs k).2 r.l k from by
            have q1 : ps.getD (k + 1) [] = r.l := by rw [← HPS.out]; exact getD_of [] (by rw [Nat.add_comm]; exact e1)
            have q2 : bs.getD k 0 = ub := getD_at 0 e2
            rw [rwT, q1, q2]
            exact ⟨rfl, rfl⟩)
          have HIN := Lib.hid (show Calls Tryz.prog 24 #[.pointer none, .int .u64 1, .slice r.A r.n r.c] wr (MkPost wr none [] 0 ⟨false, 1, r.l, 0, false, []⟩ none []) from
            ninner_any (rest := []) none 0 1 r.n r.c W.heap.size r.l wr (fun g q => (by cases q)) b1 HBW.out.size (by have := HRL.out; omega) (fun i _ q => (by cases q)))
          have hkn1 : (k : Int) < (n1 : Int) := by have := HM.out; omega
          have hkm : k ≤ 20 := by have := HM.out; omega
          have em2 : Int.tmod (k : Int) 2 = ((k % 2 : Nat) : Int) := tmod_nat k 2
          have em3 : Int.tmod (k : Int) 3 = ((k % 3 : Nat) : Int) := tmod_nat k 3
          clear e1 b1 e2 hrc
          go_wp2_with fail
          (with_reducible refine HIN.out.mono ?_)
          rintro e w1x ⟨u, rfl, nw, _⟩
          obtain ⟨u1, b1x⟩ := Upn.of_new nw (Nat.le_refl _)
          have t1 := HT.out.below (fun _ q => q) b1x
          obtain ⟨be1, Ax1, ek1, hn1, _⟩ := t1.nod
          have HSK1 := Lib.hid (u1.setkid b1x.size ub (ub.toNat : Int) rfl hn1)
          have B1X := Lib.hid b1x
          have c5 := CB.out w1x b1x
          clear nw u1 b1x t1 hn1 HIN c1'
          go_wp2_with fail
          (with_reducible refine HSK1.out.mono ?_)
          rintro e w2x ⟨rfl, u2, k2⟩
          rw [inner_es r.l ub (some ⟨g, 0, none⟩) rfl] at u2
          have B2X := Lib.hid (B1X.out.trans (k2.below B1X.out.size (fun i hi => hi.1)))
          have U2X := Lib.hid u2
          clear u2 k2 HSK1 c5
          by_cases h2 : k % 2 = 0
          · have he2 : (((k % 2 : Nat) : Int) == 0) = true := by rw [h2]; rfl
            have ewu : IntKind.u64.wrap ((k : Int) + 1) = (k : Int) + 1 := by rw [IntKind.wrap_u64]; omega
            have ewk : IntKind.u64.wrap (k : Int) = (k : Int) := by rw [IntKind.wrap_u64]; omega
            have HSV := Lib.hid (U2X.out.setval B2X.out.size ((k : Int) + 1))
            have HE2 := Lib.hid h2
            clear h2
            go_wp2_with fail
            (with_reducible refine HSV.out.mono ?_)
            rintro e w3 ⟨rfl, u3, k3⟩
            rw [top_val r.l k _ HE2.out] at u3
            have B3 := Lib.hid (B2X.out.trans (k3.below B2X.out.size (fun i hi => hi.1)))
            have U3 := Lib.hid u3
            clear u3 k3 HSV he2 ewu ewk
            by_cases h3 : k % 3 = 0
            · have he3 : (((k % 3 : Nat) : Int) == 0) = true := by rw [h3]; rfl
              have c6 : w3.cell? (adb.add k) = some (.int .u8 (ub.toNat : Int)) := CB.out w3 B3.out
              have KP := Lib.hid (fun V (h : Below w3.heap.size w3 V) => show V.cell? (adb.add k) = some (.int .u8 (ub.toNat : Int)) from CB.out V (B3.out.trans (h.mono B3.out.size)))
              have HLF := Lib.hid (fun (V : World) (h : Below w3.heap.size w3 V) => show Calls Tryz.prog 23 #[.pointer none, .int .u64 1, .slice r.A r.n r.c, .int .u64 ((k : Int) + 100)] V (MkPost V none [] 0 ⟨true, 1, r.l, (k : Int) + 100, true, []⟩ none []) from
                nleaf_any (rest := []) none 0 1 ((k : Int) + 100) r.n r.c W.heap.size r.l V (fun g q => (by cases q)) (HBR.out V (B3.out.trans (h.mono B3.out.size))) (Nat.le_trans HBW.out.size (Nat.le_trans B3.out.size h.size)) (by have := HRL.out; omega) (fun i _ q => (by cases q)))
              have ewv : IntKind.u64.wrap ((k : Int) + 100) = (k : Int) + 100 := by rw [IntKind.wrap_u64]; omega
              have ewc : IntKind.u64.wrap (k : Int) = (k : Int) := by rw [IntKind.wrap_u64]; omega
              have HSK := Lib.hid (fun (lf : Nat) (v1 : World) (h : Below w3.heap.size w3 v1) (hn : NwPost w3.drew v1 none lf ⟨true, 1, r.l, (k : Int) + 100, true, []⟩ none []) => show Calls Tryz.prog 25 #[.pointer (some ⟨u, 0, none⟩), .int .u64 1, .int .u8 (IntKind.u8.wrap ((ub.toNat : Int) + 1)), .pointer (some ⟨lf, 0, none⟩)] v1 fun e w' => (∃ y, e = .returned (.int .i64 y)) ∧ Tre w' (· < w'.heap.size) (rwT ps bs (k + 1)).1 (rwT ps bs (k + 1)).2 u ∧ Below wr.heap.size wr w' from by
                obtain ⟨l1, _⟩ := Upn.of_new (lo := w3.heap.size) hn (Nat.le_refl _)
                obtain ⟨lb, lA, hlf, _⟩ := id l1
                have hlo : wr.heap.size ≤ v1.heap.size := Nat.le_trans B3.out.size h.size
                refine ((U3.out.below h).setkid hlo (ub + 1) _ (wrap_u8 ub) hlf).mono ?_
                rintro e w' ⟨rfl, u5, k5⟩
                have hbw : Below wr.heap.size wr w' := (B3.out.trans (h.mono B3.out.size)).trans (k5.below hlo (fun i hi => hi.1))
                rw [top_kid r.l k _ (ub + 1) (some ⟨lf, 0, none⟩) rfl] at u5
                refine ⟨⟨_, rfl⟩, ?_, hbw⟩
                rw [HNX.out.1, HNX.out.2]
                refine rw_end u5 ((HT.out.below (fun _ q => q) hbw).mono (fun i hi => Nat.lt_of_lt_of_le hi hbw.size)) (.inr ⟨h3, lf, rfl, ?_⟩)
                have lt : Tre v1 (fun i => w3.heap.size ≤ i) (rwLeaf r.l k) .nil lf := by
                  obtain ⟨b', A', q1, q2⟩ := l1
                  exact ⟨b', A', [], q1, fun i hi => (q2 i hi).1, rfl⟩
                exact (lt.kept k5 (fun i hi q => by have := q.2; omega)).there.mono (fun i hi => hi.2))
              clear h3
              go_upto_region 18 with fail
              go_region_held3 (fun V => V.cell? (adb.add k) = some (.int .u8 (ub.toNat : Int)))
                (first
                | exact CB.out _ hb2
                | exact KP.out _ hb1
                | exact KP.out _ (Below.refl w3.heap.size w3).drew
                | exact KP.out _ (Below.refl w3.heap.size w3))
                (first
                | (go_at_call 23; (with_reducible refine (HLF.out w3.drew (Below.refl w3.heap.size w3).drew).mono ?_); rintro e v1 ⟨lf, rfl, nw, _⟩; have hb1 : Below w3.heap.size w3 v1 := (Below.refl w3.heap.size w3).drew.trans (Upn.of_new (lo := 0) nw (Nat.zero_le _)).2)
                | (go_at_call 25; (with_reducible refine (HSK.out lf v1 hb1 nw).mono ?_); rintro e v2 ⟨⟨y, rfl⟩, t2, q2⟩; have HT2 := Lib.hid t2; have HB2 := Lib.hid q2; have hb2 : Below wr.heap.size wr v2 := q2))
              go_wp2_with fail
              exact ⟨⟨k + 1, u, by omega, rfl, by go_num, Lib.hid ⟨HT2.out, HBW.out.trans (HB2.out.mono HBW.out.size)⟩⟩, by simp [intOf]; omega⟩
            · have he3 : (((k % 3 : Nat) : Int) == 0) = false := by rw [beq_eq_false_iff_ne]; omega
              have HT2 := Lib.hid (show Tre w3 (· < w3.heap.size) (rwT ps bs (k + 1)).1 (rwT ps bs (k + 1)).2 u from by
                rw [HNX.out.1, HNX.out.2]
                exact rw_end U3.out ((HT.out.below (fun _ q => q) B3.out).mono (fun i hi => Nat.lt_of_lt_of_le hi B3.out.size)) (.inl ⟨h3, rfl⟩))
              clear h3
              go_wp2_with fail
              exact ⟨⟨k + 1, u, by omega, rfl, by go_num, Lib.hid ⟨HT2.out, HBW.out.trans (B3.out.mono HBW.out.size)⟩⟩, by simp [intOf]; omega⟩
          · have he2 : (((k % 2 : Nat) : Int) == 0) = false := by rw [beq_eq_false_iff_ne]; omega
            obtain ⟨w3, hw3⟩ : ∃ V, V = w2x := ⟨_, rfl⟩
            subst hw3
            have B3 := Lib.hid B2X.out
            have U3 := Lib.hid (show Upn w3 wr.heap.size w3.heap.size u ((rwTop r.l k).nd [(ub, some ⟨g, 0, none⟩)]) from by
              have := U2X.out
              rwa [top_not r.l k _ h2] at this)
            clear h2
            by_cases h3 : k % 3 = 0
            · have he3 : (((k % 3 : Nat) : Int) == 0) = true := by rw [h3]; rfl
              have c6 : w3.cell? (adb.add k) = some (.int .u8 (ub.toNat : Int)) := CB.out w3 B3.out
              have KP := Lib.hid (fun V (h : Below w3.heap.size w3 V) => show V.cell? (adb.add k) = some (.int .u8 (ub.toNat : Int)) from CB.out V (B3.out.trans (h.mono B3.out.size)))
              have HLF := Lib.hid (fun (V : World) (h : Below w3.heap.size w3 V) => show Calls Tryz.prog 23 #[.pointer none, .int .u64 1, .slice r.A r.n r.c, .int .u64 ((k : Int) + 100)] V (MkPost V none [] 0 ⟨true, 1, r.l, (k : Int) + 100, true, []⟩ none []) from
                nleaf_any (rest := []) none 0 1 ((k : Int) + 100) r.n r.c W.heap.size r.l V (fun g q => (by cases q)) (HBR.out V (B3.out.trans (h.mono B3.out.size))) (Nat.le_trans HBW.out.size (Nat.le_trans B3.out.size h.size)) (by have := HRL.out; omega) (fun i _ q => (by cases q)))
              have ewv : IntKind.u64.wrap ((k : Int) + 100) = (k : Int) + 100 := by rw [IntKind.wrap_u64]; omega
              have ewc : IntKind.u64.wrap (k : Int) = (k : Int) := by rw [IntKind.wrap_u64]; omega
              have HSK := Lib.hid (fun (lf : Nat) (v1 : World) (h : Below w3.heap.size w3 v1) (hn : NwPost w3.drew v1 none lf ⟨true, 1, r.l, (k : Int) + 100, true, []⟩ none []) => show Calls Tryz.prog 25 #[.pointer (some ⟨u, 0, none⟩), .int .u64 1, .int .u8 (IntKind.u8.wrap ((ub.toNat : Int) + 1)), .pointer (some ⟨lf, 0, none⟩)] v1 fun e w' => (∃ y, e = .returned (.int .i64 y)) ∧ Tre w' (· < w'.heap.size) (rwT ps bs (k + 1)).1 (rwT ps bs (k + 1)).2 u ∧ Below wr.heap.size wr w' from by
                obtain ⟨l1, _⟩ := Upn.of_new (lo := w3.heap.size) hn (Nat.le_refl _)
                obtain ⟨lb, lA, hlf, _⟩ := id l1
                have hlo : wr.heap.size ≤ v1.heap.size := Nat.le_trans B3.out.size h.size
                refine ((U3.out.below h).setkid hlo (ub + 1) _ (wrap_u8 ub) hlf).mono ?_
                rintro e w' ⟨rfl, u5, k5⟩
                have hbw : Below wr.heap.size wr w' := (B3.out.trans (h.mono B3.out.size)).trans (k5.below hlo (fun i hi => hi.1))
                rw [top_kid r.l k _ (ub + 1) (some ⟨lf, 0, none⟩) rfl] at u5
                refine ⟨⟨_, rfl⟩, ?_, hbw⟩
                rw [HNX.out.1, HNX.out.2]
                refine rw_end u5 ((HT.out.below (fun _ q => q) hbw).mono (fun i hi => Nat.lt_of_lt_of_le hi hbw.size)) (.inr ⟨h3, lf, rfl, ?_⟩)
                have lt : Tre v1 (fun i => w3.heap.size ≤ i) (rwLeaf r.l k) .nil lf := by
                  obtain ⟨b', A', q1, q2⟩ := l1
                  exact ⟨b', A', [], q1, fun i hi => (q2 i hi).1, rfl⟩
                exact (lt.kept k5 (fun i hi q => by have := q.2; omega)).there.mono (fun i hi => hi.2))
              clear h3
              go_upto_region 18 with fail
              go_region_held3 (fun V => V.cell? (adb.add k) = some (.int .u8 (ub.toNat : Int)))
                (first
                | exact CB.out _ hb2
                | exact KP.out _ hb1
                | exact KP.out _ (Below.refl w3.heap.size w3).drew
                | exact KP.out _ (Below.refl w3.heap.size w3))
                (first
                | (go_at_call 23; (with_reducible refine (HLF.out w3.drew (Below.refl w3.heap.size w3).drew).mono ?_); rintro e v1 ⟨lf, rfl, nw, _⟩; have hb1 : Below w3.heap.size w3 v1 := (Below.refl w3.heap.size w3).drew.trans (Upn.of_new (lo := 0) nw (Nat.zero_le _)).2)
                | (go_at_call 25; (with_reducible refine (HSK.out lf v1 hb1 nw).mono ?_); rintro e v2 ⟨⟨y, rfl⟩, t2, q2⟩; have HT2 := Lib.hid t2; have HB2 := Lib.hid q2; have hb2 : Below wr.heap.size wr v2 := q2))
              go_wp2_with fail
              exact ⟨⟨k + 1, u, by omega, rfl, by go_num, Lib.hid ⟨HT2.out, HBW.out.trans (HB2.out.mono HBW.out.size)⟩⟩, by simp [intOf]; omega⟩
            · have he3 : (((k % 3 : Nat) : Int) == 0) = false := by rw [beq_eq_false_iff_ne]; omega
              have HT2 := Lib.hid (show Tre w3 (· < w3.heap.size) (rwT ps bs (k + 1)).1 (rwT ps bs (k + 1)).2 u from by
                rw [HNX.out.1, HNX.out.2]
                exact rw_end U3.out ((HT.out.below (fun _ q => q) B3.out).mono (fun i hi => Nat.lt_of_lt_of_le hi B3.out.size)) (.inl ⟨h3, rfl⟩))
              clear h3
              go_wp2_with fail
              exact ⟨⟨k + 1, u, by omega, rfl, by go_num, Lib.hid ⟨HT2.out, HBW.out.trans (B3.out.mono HBW.out.size)⟩⟩, by simp [intOf]; omega⟩
        · have hkm : m = k := by omega
          subst hkm
          obtain ⟨T, hT⟩ : ∃ T, rwT ps bs m = T := ⟨_, rfl⟩
          obtain ⟨w1, w2⟩ := rwT_wf ps bs m
          have hfit := rwT_fits bs HPL.out (i := m) (by have := HM.out; omega)
          have ht := HT.out
          rw [hT] at w1 w2 hfit ht
          have HWF := Lib.hid (show owf (some T) from w2)
          have HFT := Lib.hid hfit
          have OT := Lib.hid (show OTre wr (· < wr.heap.size) (some T) (some ⟨g, 0, none⟩) from ⟨g, rfl, ht⟩)
          obtain ⟨L, hL⟩ : ∃ L, olist (some T) = L := ⟨_, rfl⟩
          have HLL := Lib.hid hL
          have HRS := Lib.hid (show Rise L from hL ▸ olist_rise (t := some T) w2)
          have HGT := Lib.hid (fun (V : World) (h : Below wr.heap.size wr V) (Ak : Option Addr) (nk ck : Nat) (lk : List UInt8) (hy : Byt V V.heap.size Ak nk lk) (hc : nk ≤ ck) (hn : nk ≤ 1000000) (g1 : Int) (g2 : Bool) (hg : getK L lk = (g1, g2)) => show Calls Tryz.prog 11 #[.pointer (some ⟨g, 0, none⟩), .slice Ak nk ck] V fun e w' => e = .returned (.tuple #[.int .u64 g1, .bool g2]) ∧ Below V.heap.size V w' from by
            have h1 := fget_any (some T) (some ⟨g, 0, none⟩) Ak nk ck lk V (OT.out.below h) hy hc hn
            have h2 : getF ((ogo (some T) lk 0).filterMap id) nk = (g1, g2) := by rw [ogo_begs HWF.out, HLL.out, ← hy.1, getK_begs, hg]
            rw [h2] at h1
            exact h1)
          obtain ⟨gg, hgg⟩ : ∃ g, getK L key = g := ⟨_, rfl⟩
          obtain ⟨g1, g2⟩ := gg
          have H5 := Lib.hid (HGT.out wr (Below.refl _ _) A2 n2 c2 key ((HB2.out wr HBW.out).more HBW.out.size) HC.out.2 (by omega) g1 g2 hgg)
          have HGG := Lib.hid hgg
          clear hT w1 w2 hfit ht hL hgg HT
          go_wp2_with fail
          (with_reducible refine H5.out.mono ?_)
          rintro e w5 ⟨rfl, b5⟩
          have B5 := Lib.hid b5
          have H6 := Lib.hid (clist_any (some T) (some ⟨g, 0, none⟩) w5 (OT.out.below b5) HFT.out)
          clear b5 H5
          go_wp2_with fail
          (with_reducible refine H6.out.mono ?_)
          rintro e w6 ⟨A6, c6, ys, rfl, _, k6, l6, b6⟩
          have hl6 : ys.map (fun y => (y.key, y.more)) = L.map fun p => (p.1, [Value.int .u64 p.2]) := by
            rw [l6, ← HLL.out]
            exact tvis_list T.1 T.2 [] 1
          obtain ⟨qs, p6, r6, e6⟩ := k6.prs hl6
          obtain ⟨mm, hmm⟩ : ∃ k, ys.length = k := ⟨_, rfl⟩
          rw [hmm] at p6 ⊢
          have HMM := Lib.hid (show L.length = mm by rw [← e6, List.length_map]; exact p6.1)
          have P6 := Lib.hid p6
          have R6 := Lib.hid r6
          have E6 := Lib.hid (show qs.map kvP = L from e6)
          have B6 := Lib.hid (B5.out.trans (b6.mono B5.out.size))
          have hmm9 : mm ≤ 9223372036854775807 := by have := p6.2.1; unfold maxLen at this; omega
          obtain ⟨wo, hwo⟩ : ∃ V, V = wr := ⟨_, rfl⟩
          subst hwo
          clear k6 l6 b6 hl6 p6 r6 e6 hmm H6
          go_wp2_with fail
          go_loopw [15, 16, 108] (fun v15 v16 i wr => ∃ (j : Nat) (x1 : Int) (x2 : Bool), j ≤ mm ∧ v15 = .int .u64 x1 ∧ v16 = .bool x2 ∧ i = .int .i64 (j : Int) ∧ Hid (getK (L.take j) key = (x1, x2)) ∧ Hid (Below w6.heap.size w6 wr)) (fun _ _ i _ => mm - (intOf i).toNat)
          case atStart => exact ⟨0, 0, false, Nat.zero_le _, rfl, rfl, rfl, Lib.hid rfl, Lib.hid (Below.refl _ _)⟩
          case round =>
            obtain ⟨j, x1, x2, hj, rfl, rfl, rfl, HX, HQ⟩ := hrel
            have BW6 := Lib.hid (B6.out.trans (HQ.out.mono B6.out.size))
            by_cases h1 : j < mm
            · obtain ⟨adq, p1, rfl, _, e1, f1, f2', _⟩ := (P6.out.below HQ.out).at_ h1
              have hkp := R6.out p1 (List.mem_of_getElem? e1)
              have he1 : L[j]? = some (kvP p1) := by rw [← E6.out, List.getElem?_map, e1]; rfl
              rw [← add_of_add] at f2'
              have f2 : wr.cell? ⟨(adq.add (j * 2)).block, (adq.add (j * 2)).off + 1, none⟩ = some (.int .u64 p1.val) := f2'
              have hl1 : p1.n ≤ 1000000 := by
                have h2 : kvP p1 ∈ olist (some T) := by rw [HLL.out]; exact List.mem_of_getElem? he1
                obtain ⟨v, hv, hw, _⟩ := list_way2 h2
                have h3 := (HFT.out.1 v hv).1
                have h4 := hkp.1.1
                rw [hw] at h3
                have h5 : p1.key.length ≤ 1000000 := h3
                omega
              obtain ⟨X1, hX1⟩ : ∃ V, wr.alloc (.cells #[.slice p1.A p1.n p1.c, .int .u64 p1.val] 34) = V := ⟨_, rfl⟩
              have bx1 : Below wr.heap.size wr X1 := by rw [← hX1]; exact (Below.refl _ _).alloc (Nat.le_refl _) _
              have kx1 : Blk X1 wr.heap.size #[.slice p1.A p1.n p1.c, .int .u64 p1.val] := by rw [← hX1]; exact Blk.new _ _ _
              have bx6 := HQ.out.trans (bx1.mono HQ.out.size)
              have BX := Lib.hid bx6
              have BXW := Lib.hid (B6.out.trans (bx6.mono B6.out.size))
              have KX := Lib.hid (fun V (h : Below X1.heap.size X1 V) => kx1.below h kx1.lt)
              have hy1 := hkp.1.below bx6
              have H7 := rsame_any p1.A A2 p1.n n2 p1.c c2 X1.heap.size p1.key key X1 (hy1.more bx6.size) ((HB2.out X1 (HBW.out.trans (BXW.out.mono HBW.out.size))).more (Nat.le_trans HBW.out.size BXW.out.size))
              obtain ⟨sb, hsb⟩ : ∃ b, sameB p1.key key = b := ⟨_, rfl⟩
              rw [hsb] at H7
              have H7 := Lib.hid H7
              have HSB := Lib.hid hsb
              have HTK := Lib.hid (getK_succ he1 key)
              have HG1 := Lib.hid (fun V (h : Below X1.heap.size X1 V) => HGT.out V (BXW.out.trans (h.mono BXW.out.size)) p1.A p1.n p1.c p1.key ((hy1.below (h.mono bx6.size)).more (Nat.le_trans bx6.size h.size)) hkp.2 hl1 p1.val true (getK_at HRS.out he1))
              have HX1 := Lib.hid hX1
              clear hX1 bx1 kx1 bx6 hy1 hsb he1 e1 hkp f2'
              go_upto_region 26 with fail
              rw [HX1.out]
              have d0 := (KX.out X1 (Below.refl _ _)).cell 0
              go_wp2_with fail
              (with_reducible refine H7.out.mono ?_)
              rintro e w7 ⟨rfl, s7⟩
              have B7 := Lib.hid (s7.below X1.heap.size)
              have d1 := (KX.out w7 B7.out).cell 0
              have d2 := (KX.out w7 B7.out).cell 1
              have H8 := Lib.hid (HG1.out w7 B7.out)
              have u1 : (p1.val != p1.val) = false := bne_self_eq_false _
              clear s7 H7 d0
              cases sb with
              | true =>
                have he : p1.key = key := of_decide_eq_true HSB.out
                have HN := Lib.hid (show getK (L.take (j + 1)) key = (p1.val, true) by rw [HTK.out, if_pos he])
                clear he
                go_wp2_with fail
                (with_reducible refine H8.out.mono ?_)
                rintro e w8 ⟨rfl, b8⟩
                have B8 := Lib.hid (B7.out.trans (b8.mono B7.out.size))
                have d3 := (KX.out w8 B8.out).cell 1
                have BE := Lib.hid (BX.out.trans (B8.out.mono BX.out.size))
                clear b8 H8 d1 d2
                go_wp2_with fail
                exact ⟨⟨j + 1, p1.val, true, by omega, rfl, rfl, by go_num, HN, BE⟩, by simp [intOf]; omega⟩
              | false =>
                have he : p1.key ≠ key := of_decide_eq_false HSB.out
                have HN := Lib.hid (show getK (L.take (j + 1)) key = (x1, x2) by rw [HTK.out, if_neg he]; exact HX.out)
                clear he
                go_wp2_with fail
                (with_reducible refine H8.out.mono ?_)
                rintro e w8 ⟨rfl, b8⟩
                have B8 := Lib.hid (B7.out.trans (b8.mono B7.out.size))
                have d3 := (KX.out w8 B8.out).cell 1
                have BE := Lib.hid (BX.out.trans (B8.out.mono BX.out.size))
                clear b8 H8 d1 d2
                go_wp2_with fail
                exact ⟨⟨j + 1, x1, x2, by omega, rfl, rfl, by go_num, HN, BE⟩, by simp [intOf]; omega⟩
            · have hjm : mm = j := by omega
              subst hjm
              have hxx : (g1, g2) = (x1, x2) := by
                rw [← HGG.out, ← HX.out, List.take_of_length_le (by have := HMM.out; omega)]
              injection hxx with hx1 hx2
              subst hx1 hx2
              have u1 : (g1 == g1) = true := beq_self_eq_true _
              have u2 : (g2 == g2) = true := beq_self_eq_true _
              have HAL := Lib.hid (falive_any wr)
              go_wp2_with fail
              (with_reducible refine HAL.out.mono ?_)
              rintro e wz ⟨rfl, bz⟩
              have BZ := Lib.hid (HBW.out.trans ((BW6.out.trans (bz.mono BW6.out.size)).mono HBW.out.size))
              clear bz HAL
              go_wp2_with fail
              go_ret
              exact ⟨rfl, BZ.out⟩
set_option maxRecDepth 100000 in
theorem lifted (os : Os) (started : os.Started) (H : Type) (enc : TypeId × Value → H) :
    ReturnsInHanded {} Tryz.checked os 6 .any (Rows.findRawsSpec.pre6 enc Tryz.prog Tryz.f6 Rows.findRawsRow.domain false) (Rows.findRawsSpec.post enc Tryz.prog Tryz.f6 false true false false) := by
  refine returnsInHanded_of_change (C := Tryz.checked) own started (by kernel_rfl) Tryz.func6
    (ChangeSpec.witness6 (enc := enc) (C := Tryz.checked) false ⟨#[], #[.slice none 0 0, .slice none 0 0, .slice none 0 0], []⟩ 8 (by kernel_rfl) (by kernel_rfl) (by kernel_rfl) (by kernel_rfl)) ?_
  intro W base args ds gs before hval0 hW hcnd _
  have hval : ∀ (j : Nat) t v, Tryz.f6.params[j]? = some t → args[j]? = some v → Value.okWide Tryz.prog W .any base t v := hval0
  have hW' := hW
  obtain ⟨p, q, hA0, hV, rfl, hfz, hnd⟩ := hW
  have hA : DataW.TrodAll enc Tryz.prog W 0 (fun _ => true) true Tryz.f6.params.toList args.toList ds p := hA0
  rw [Tryz.params6] at hA hval
  obtain ⟨v0, vs0, d0, ds0, p0, q0, hargs, rfl, rfl, h0, r0⟩ := trodAll_cons hA
  obtain ⟨v1, vs1, d1, ds1, p1, q1, rfl, rfl, rfl, h1, r1⟩ := trodAll_cons r0
  obtain ⟨v2, vs2, d2, ds2, p2, q2, rfl, rfl, rfl, h2, r2⟩ := trodAll_cons r1
  obtain ⟨rfl, rfl, rfl⟩ := trodAll_nil r2
  obtain rfl : args = #[v0, v1, v2] := by cases args; simp_all
  obtain ⟨rfl, rfl⟩ := trodVars_none hV
  have k0 := h0
  have lt0 : ∀ x ∈ p0, x.block < W.heap.size := by obtain ⟨m, hm⟩ := k0; exact DataW.trod_lt m _ _ _ hm
  have k1 := h1
  have lt1 : ∀ x ∈ p1, x.block < W.heap.size := by obtain ⟨m, hm⟩ := k1; exact DataW.trod_lt m _ _ _ hm
  have k2 := h2
  have lt2 : ∀ x ∈ p2, x.block < W.heap.size := by obtain ⟨m, hm⟩ := k2; exact DataW.trod_lt m _ _ _ hm
  obtain ⟨A0, n0, c0, l0, rfl, b0, nc0⟩ := open_bss (hval 0 45 v0 rfl rfl) h0
  obtain ⟨A1, n1, c1, l1, rfl, b1, nc1⟩ := open_byt (hval 1 23 v1 rfl rfl) h1
  obtain ⟨A2, n2, c2, l2, rfl, b2, nc2⟩ := open_byt (hval 2 23 v2 rfl rfl) h2
  clear hA0 hval0
  refine (walk A0 n0 c0 l0 A1 n1 c1 l1 A2 n2 c2 l2 W b0 nc0 b1 nc1 b2 nc2).mono fun e W' ⟨he, bel⟩ => ?_
  subst he
  exact ⟨_, rfl, _, _, _, [], _, [], hW', trodAll_mk1 (shut_bool Tryz.underlying4 _), (trodAll_cons_mk (Below.trod laidOut (by kernel_rfl) (of_decide_eq_true (by kernel_rfl)) k0 bel lt0) (trodAll_cons_mk (Below.trod laidOut (by kernel_rfl) (of_decide_eq_true (by kernel_rfl)) k1 bel lt1) (trodAll_cons_mk (Below.trod laidOut (by kernel_rfl) (of_decide_eq_true (by kernel_rfl)) k2 bel lt2) trodAll_mk0))), rfl, bel.frame _, fun h => by cases h⟩

set_option maxRecDepth 100000 in
theorem proved : Rows.FindRawsSaid :=
  OpenClaim.holds_of_wide 6 Tryz.f6 rfl rfl rfl rfl rfl rfl rfl ⟨rfl, rfl, rfl, rfl, rfl⟩ rfl rfl rfl rfl rfl (by kernel_rfl) Tryz.func6 (by kernel_rfl)
    (of_decide_eq_true (by kernel_rfl)) (by unfold Func.isWrapper; first | (rw [if_pos (by decide +kernel)]; kernel_rfl) | (rw [if_neg (by decide +kernel)]; exact ⟨rfl, rfl⟩))
    (fun os started H enc _ => lifted os started H enc)
end Go.Proofs.YtfmkhafpbfmadaaGreat.findRaws
