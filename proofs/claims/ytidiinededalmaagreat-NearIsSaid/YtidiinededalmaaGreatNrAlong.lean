/-
  near.along: the nodes that a key goes on behind, and where that ends.
-/
import Derived.Test.YtidiinededalmaaGreatNrEnds
import Derived.Test.YtidiinededalmaaGreatCnLaw
namespace Go.Proofs.YtidiinededalmaaGreat
open Go.RowKit

set_option maxRecDepth 100000 in
theorem info_fork : (Tryz.prog.info? 62).map (fun i => (i.zero, i.size, i.bytes)) = some (some (.agg #[.pointer none, .slice none 0 0, .int .i64 0]), 3, 40) := by kernel_rfl
/-- A fork's cells: its node, the key's own bytes up to there, by which byte the key goes on. -/
def fkC (A : Option Addr) (p : Fk × Nat) : List Value := [.pointer (some ⟨p.2, 0, none⟩), .slice A p.1.way.length p.1.way.length, .int .i64 (p.1.on.toNat : Int)]
theorem tri_cells {w : World} {g : Nat} {a b c : Value} (h : Blk w g #[a, b, c]) : ∀ (j : Nat) (u : Value), [a, b, c][j]? = some u → w.cell? ((⟨g, 0, none⟩ : Addr).add j) = some u := fun j u hj => by
  match j, hj with
  | 0, hj => cases hj; exact h.cell 0
  | 1, hj => cases hj; exact h.cell 1
  | 2, hj => cases hj; exact h.cell 2
theorem tri_one {p : Option Addr} {A : Option Addr} {n c : Nat} {z : Int} : ∀ u ∈ [Value.pointer p, .slice A n c, .int .i64 z], u.oneCell' = true := by
  intro u hu
  simp at hu
  rcases hu with rfl | rfl | rfl <;> rfl
/-- What is known of a fork. -/
structure FkOk (V : World) (n₀ : Nat) (key : List UInt8) (p : Fk × Nat) : Prop where
  tre : Tre V (· < n₀) p.1.x p.1.k p.2
  way : p.1.way = key.take p.1.way.length
  le : p.1.way.length ≤ key.length
  full : p.1.k.full
/-- Where along stands. -/
structure AloS (w : World) (L : List KV) (A : Option Addr) (key : List UInt8) (gs : List (Fk × Nat)) (t : Option (Nn × Fo)) (q : Option Addr) (F : Option Addr) (cf : Nat) (a : Nat) (V : World) : Prop where
  alg : Alg L key (gs.map Prod.fst) t a
  le : a ≤ key.length ∨ t = none
  wf : owf t
  full : ofull t
  tre : OTre V (· < w.heap.size) t q
  row : MineR V w.heap.size 62 3 (.slice F gs.length cf) gs.length (gs.map (fkC A))
  room : gs.length ≤ cf
  ok : ∀ p ∈ gs, FkOk V w.heap.size key p
  many : gs.length ≤ a
  below : Below w.heap.size w V
/-- What along leaves. -/
def AloPost (w : World) (L : List KV) (A : Option Addr) (key : List UInt8) (e : Ending) (w' : World) : Prop :=
  ∃ (gs : List (Fk × Nat)) (t : Option (Nn × Fo)) (q : Option Addr) (F : Option Addr) (c a : Nat), e = .returned (.tuple #[.slice F gs.length c, .pointer q, .int .i64 (a : Int)]) ∧ gs.length ≤ c ∧ gs.length ≤ key.length ∧
    Alg L key (gs.map Prod.fst) t a ∧ (∀ x k, t = some (x, k) → a ≤ key.length ∧ (x.part.length = (key.drop a).length ∨ begB (key.drop a) x.part = false)) ∧ ofull t ∧ OTre w' (· < w.heap.size) t q ∧
    Rws w' w'.heap.size F gs.length 3 (gs.map (fkC A)) ∧ (∀ p ∈ gs, FkOk w' w.heap.size key p) ∧ Below w.heap.size w w'
theorem FkOk.below {V V' : World} {n₀ : Nat} {key : List UInt8} {p : Fk × Nat} (h : FkOk V n₀ key p) (hb : Below n₀ V V') : FkOk V' n₀ key p := ⟨h.tre.below (fun _ q => q) hb, h.way, h.le, h.full⟩
theorem Alg.none_at {L : List KV} {key : List UInt8} {fs : List Fk} {a : Nat} (h : Alg L key fs none a) (b : Nat) : Alg L key fs none b := ⟨h.ge, h.lt⟩
set_option maxRecDepth 100000 in
set_option maxHeartbeats 4000000 in
theorem nalong_any (t : Option (Nn × Fo)) (p A : Option Addr) (n c : Nat) (key : List UInt8) (w : World) (ht : OTre w (· < w.heap.size) t p) (hwf : owf t) (hf : ofull t) (hk : Byt w w.heap.size A n key) (hnc : n ≤ c) (hn : n ≤ 60000) :
    Calls Tryz.prog 32 #[.pointer p, .slice A n c] w (AloPost w (olist t) A key) := by
  have hl : key.length = n := hk.1
  have S0 := Lib.hid (show AloS w (olist t) A key [] t p none 0 0 w from ⟨Alg.start t key, .inl (Nat.zero_le _), hwf, hf, ht, MineR.nil _ _ _ _, Nat.le_refl _, (fun _ q => by cases q), Nat.le_refl _, Below.refl _ _⟩)
  have HL := Lib.hid hl
  have HMX := Lib.hid (And.intro hn hnc)
  have HB := Lib.hid (fun V (hV : Below w.heap.size w V) => hk.below hV)
  clear hk hnc ht hl hn hwf hf
  go_enter Tryz.func32, Tryz.ntmps32
  go_wp2_with fail
  go_loopw [0, 7, 8] (fun v0 v7 v8 wr => ∃ (gs : List (Fk × Nat)) (t' : Option (Nn × Fo)) (q F : Option Addr) (cf a : Nat), v0 = .pointer q ∧ v7 = .slice F gs.length cf ∧ v8 = .int .i64 (a : Int) ∧ Hid (AloS w (olist t) A key gs t' q F cf a wr ∧ a ≤ n)) (fun _ _ v8 _ => n + 1 - (intOf v8).toNat)
  case atStart => exact ⟨[], t, p, none, 0, 0, rfl, rfl, rfl, Lib.hid ⟨S0.out, Nat.zero_le _⟩⟩
  case round =>
    obtain ⟨gs, t', q, F, cf, a, rfl, rfl, rfl, HS0⟩ := hrel
    have HS := Lib.hid HS0.out.1
    have HAN := Lib.hid HS0.out.2
    clear S0
    cases t' with
    | none =>
      obtain rfl : q = none := HS.out.tre
      have HK := Lib.hid (nkind_nil wr)
      go_wp2_with fail
      (with_reducible refine HK.out.mono ?_)
      rintro e w1 ⟨rfl, rfl⟩
      go_wp2_with fail
      go_ret3
      exact ⟨gs, none, none, F, cf, 0, rfl, HS.out.room, (by have := HS.out.many; have := HAN.out; have := HL.out; omega), HS.out.alg.none_at 0, fun x k e => (by cases e), trivial, rfl, HS.out.row.rws, HS.out.ok, HS.out.below⟩
    | some xk =>
      obtain ⟨x, k⟩ := xk
      obtain ⟨g, rfl, T⟩ := HS.out.tre
      have HT := Lib.hid T
      obtain ⟨be, A1, ek, hN1, hI1⟩ := T.nod
      have hkd := kindD_ne (x.nd ek)
      have HK := nkind_any hN1
      obtain ⟨kd, hkd2⟩ : ∃ z, kindD (x.nd ek) = z := ⟨_, rfl⟩
      rw [hkd2] at HK hkd
      have hkne : (kd != 0) = true := by simpa using hkd
      have HK := Lib.hid HK
      have ha6 : (a : Int) ≤ 65535 := by have := HAN.out; have := HMX.out.1; omega
      clear T hN1 hI1 hkd hkd2
      go_wp2_with fail
      (with_reducible refine HK.out.mono ?_)
      rintro e w1 ⟨rfl, s1⟩
      have HST := Lib.hid (fun (V : World) (hV : Below wr.heap.size wr V) => show AloS w (olist t) A key gs (some (x, k)) (some ⟨g, 0, none⟩) F cf a V from
        ⟨HS.out.alg, HS.out.le, HS.out.wf, HS.out.full, ⟨g, rfl, HT.out.below (fun _ q => q) (hV.mono HS.out.below.size)⟩, HS.out.row.below hV (fun i q => (HS.out.row.lt i q).2), HS.out.room, fun p hp => (HS.out.ok p hp).below (hV.mono HS.out.below.size), HS.out.many, HS.out.below.trans (hV.mono HS.out.below.size)⟩)
      have b1 : Below wr.heap.size wr w1 := s1.below _
      have HB1 := Lib.hid b1
      obtain ⟨be, A1, ek, hN1, hI1⟩ := (HT.out.below (fun _ q => q) (b1.mono HS.out.below.size)).nod
      have HPT := Lib.hid (npart_any hN1)
      clear s1 b1 hN1 hI1 HK
      go_wp2_with fail
      (with_reducible refine HPT.out.mono ?_)
      rintro e w2 ⟨A2, c2, rfl, y2, _, b2⟩
      have HB2 := Lib.hid (HB1.out.trans (b2.mono HB1.out.size))
      have Y2 := Lib.hid y2
      have hsl := fun V => slc_from (P := Tryz.prog) Tryz.underlying23 size_u8 A n c a HAN.out V
      have HBG := begins_any (cutA A a c 1) A2 (n - a) x.part.length (c - a) c2 w2.heap.size (key.drop a) x.part w2 (by
        have := (HB.out w2 (HST.out w2 HB2.out).below).cut_ a n HAN.out (Nat.le_refl _) HMX.out.2
        rw [List.take_of_length_le (by rw [HL.out]; exact Nat.le_refl _)] at this
        exact this.more (HST.out w2 HB2.out).below.size) y2
      obtain ⟨bb, hbb⟩ : ∃ b, begB (key.drop a) x.part = b := ⟨_, rfl⟩
      rw [hbb] at HBG
      have HBB := Lib.hid hbb
      have HBG := Lib.hid HBG
      obtain ⟨m, hm⟩ : ∃ m, x.part.length = m := ⟨_, rfl⟩
      have HM := Lib.hid hm
      rw [hm] at HBG Y2 ⊢
      have ewa : IntKind.i64.wrap ((n : Int) - (a : Int)) = ((n - a : Nat) : Int) := by have := HAN.out; have := HMX.out.1; rw [IntKind.wrap_i64]; omega
      obtain ⟨na, hna⟩ : ∃ z, n - a = z := ⟨_, rfl⟩
      rw [hna] at ewa HBG hsl
      have HNA := Lib.hid hna
      clear b2 y2 hbb HPT hm hkne hna
      by_cases hmn : m = na
      · have hq : ((m : Int) == (na : Int)) = true := by rw [beq_iff_eq, hmn]
        have HE := Lib.hid (show x.part.length = (key.drop a).length from by rw [List.length_drop, HM.out, hmn, ← HNA.out, HL.out])
        have HE2 := Lib.hid (HST.out w2 HB2.out)
        clear hmn
        go_wp2_with fail
        go_ret3
        exact ⟨gs, some (x, k), some ⟨g, 0, none⟩, F, cf, a, rfl, HE2.out.room, (by have := HE2.out.many; have := HAN.out; have := HL.out; omega), HE2.out.alg, fun x' k' e => by cases e; exact ⟨by rw [HL.out]; exact HAN.out, .inl HE.out⟩, HE2.out.full, HE2.out.tre, HE2.out.row.rws, HE2.out.ok, HE2.out.below⟩
      · have hq : ((m : Int) == (na : Int)) = false := by rw [beq_eq_false_iff_ne]; omega
        have HNE := Lib.hid hmn
        clear hmn
        go_wp2_with fail
        (with_reducible refine HBG.out.mono ?_)
        rintro e w3 ⟨rfl, s3⟩
        have HB3 := Lib.hid (HB2.out.trans (s3.below _))
        have Y3 := Lib.hid ((Y2.out.below (s3.below _)).more (s3.below 0).size)
        clear s3 HBG hsl hq
        cases bb with
        | false =>
          have HE2 := Lib.hid (HST.out w3 HB3.out)
          go_wp2_with fail
          go_ret3
          exact ⟨gs, some (x, k), some ⟨g, 0, none⟩, F, cf, a, rfl, HE2.out.room, (by have := HE2.out.many; have := HAN.out; have := HL.out; omega), HE2.out.alg, fun x' k' e => by cases e; exact ⟨by rw [HL.out]; exact HAN.out, .inr HBB.out⟩, HE2.out.full, HE2.out.tre, HE2.out.row.rws, HE2.out.ok, HE2.out.below⟩
        | true =>
          have hmn : a + m < n := by
            have h1 := beg_len HBB.out
            have h2 := HNE.out
            have h3 := HM.out
            have h4 := HNA.out
            have h5 := HAN.out
            have h6 := HL.out
            rw [List.length_drop] at h1
            omega
          obtain ⟨b, hb⟩ : ∃ b, a + m = b := ⟨_, rfl⟩
          rw [hb] at hmn
          have ew2 : IntKind.i64.wrap ((a : Int) + (m : Int)) = (b : Int) := by have := HMX.out.1; rw [IntKind.wrap_i64]; omega
          have ew3 : IntKind.i64.wrap ((b : Int) + 1) = ((b + 1 : Nat) : Int) := by have := HMX.out.1; rw [IntKind.wrap_i64]; omega
          have HBN := Lib.hid hmn
          have HAB := Lib.hid hb
          have hwb : Below w.heap.size w w3 := (HST.out w3 HB3.out).below
          obtain ⟨ad, u, rfl, hadl, e1, c1⟩ := (HB.out w3 hwb).at_ hmn
          have hdr : (key.drop a).drop x.part.length = u :: key.drop (b + 1) := by
            have h5 := HM.out
            rw [List.drop_drop, show a + x.part.length = b by omega]
            obtain ⟨hq, e2⟩ := List.getElem?_eq_some_iff.1 e1
            rw [List.drop_eq_getElem_cons hq, e2]
          obtain ⟨q1, q2, q3⟩ := HS.out.alg.step HS.out.wf HBB.out hdr (show a + x.part.length = b by have := HM.out; omega)
          have hwl : (key.take b).length = b := by rw [List.length_take, HL.out]; omega
          have HQ := Lib.hid (And.intro q3 hwl)
          have HAD := Lib.hid (And.intro hadl c1)
          have HW5 := Lib.hid hwb
          have HTR := Lib.hid (fun V => ntrim_any (some ad) n c b (Nat.le_of_lt hmn) HMX.out.2 V)
          have HGS := Lib.hid (show gs.length + 1 ≤ 60001 by have := HS.out.many; have := HAN.out; have := HMX.out.1; omega)
          have EWU := Lib.hid (show IntKind.i64.wrap (u.toNat : Int) = (u.toNat : Int) from by have := u.toNat_lt; rw [IntKind.wrap_i64]; omega)
          have KP := Lib.hid (fun (V : World) (hV : Below w3.heap.size w3 V) => show V.cell? (ad.add b) = some (.int .u8 (u.toNat : Int)) from (hV.cell (p := ad.add b) (by rw [block_of_add]; exact Nat.lt_of_lt_of_le hadl hwb.size)).trans c1)
          have MR := Lib.hid (fun (V : World) (hV : Below w3.heap.size w3 V) => (HST.out w3 HB3.out).row.below hV (fun i q => ((HST.out w3 HB3.out).row.lt i q).2))
          have KM := Lib.hid (fun (U3 U4 : World) (hV : Below w3.heap.size w3 U3) (g4 : U3.grownBy U4 (Value.slice F gs.length cf).ownBlock) => show Below w.heap.size w3 U4 ∧ U4.cell? (ad.add b) = some (.int .u8 (u.toNat : Int)) from by
            have h1 : Below w.heap.size w3 U4 := (hV.mono hwb.size).grown g4 (Nat.le_trans hwb.size hV.size) (fun i q => ((HST.out w3 HB3.out).row.lt i q).1)
            exact ⟨h1, (h1.cell (p := ad.add b) (by rw [block_of_add]; exact hadl)).trans c1⟩)
          clear hdr e1 q1 q2 q3 hb hwl hadl hwb
          go_wp2_with fail
          refine wp_region_held_drew (S := (fun w' => w'.cell? (ad.add b) = some (.int .u8 (u.toNat : Int)))) (by kernel_rfl) (KP.out _ ((Below.refl w3.heap.size w3).drew)) (fun hHeld => ?_)
          refine wpAnyH_take (i := 0) (oi := { dst := some 41, op := Op.move (Operand.tmp 7), type := 53, pos := "near.go:80", after := #[], guard := none }) (v := ?v1) rfl (by kernel_rfl) (by kernel_rfl) (by kernel_rfl) (fun _ _ _ h => h) (Or.inl ⟨by rfl, ?hy1⟩) hHeld ?rest1
          case hy1 => (intro w' hSw; (try dsimp only at hSw); go_simp; (try with_reducible rfl))
          try simp only [Act.put, List.setIfInBounds_toArray, List.set_cons_zero, List.set_cons_succ]
          refine wpAnyH_take (i := 1) (oi := { dst := some 42, op := Op.move (Operand.tmp 0), type := 27, pos := "near.go:80", after := #[], guard := none }) (v := ?v2) rfl (by kernel_rfl) (by kernel_rfl) (by kernel_rfl) (fun _ _ _ h => h) (Or.inl ⟨by rfl, ?hy2⟩) hHeld ?rest2
          case hy2 => (intro w' hSw; (try dsimp only at hSw); go_simp; (try with_reducible rfl))
          try simp only [Act.put, List.setIfInBounds_toArray, List.set_cons_zero, List.set_cons_succ]
          refine wpAnyH_take (i := 2) (oi := { dst := some 43, op := Op.move (Operand.tmp 1), type := 23, pos := "near.go:80", after := #[], guard := none }) (v := ?v3) rfl (by kernel_rfl) (by kernel_rfl) (by kernel_rfl) (fun _ _ _ h => h) (Or.inl ⟨by rfl, ?hy3⟩) hHeld ?rest3
          case hy3 => (intro w' hSw; (try dsimp only at hSw); go_simp; (try with_reducible rfl))
          try simp only [Act.put, List.setIfInBounds_toArray, List.set_cons_zero, List.set_cons_succ]
          refine wpAnyH_take (i := 3) (oi := { dst := some 44, op := Op.move (Operand.tmp 8), type := 3, pos := "near.go:80", after := #[], guard := none }) (v := ?v4) rfl (by kernel_rfl) (by kernel_rfl) (by kernel_rfl) (fun _ _ _ h => h) (Or.inl ⟨by rfl, ?hy4⟩) hHeld ?rest4
          case hy4 => (intro w' hSw; (try dsimp only at hSw); go_simp; (try with_reducible rfl))
          try simp only [Act.put, List.setIfInBounds_toArray, List.set_cons_zero, List.set_cons_succ]
          refine wpAnyH_take (i := 5) (oi := { dst := some 46, op := Op.move (Operand.tmp 1), type := 23, pos := "near.go:80", after := #[], guard := none }) (v := ?v5) rfl (by kernel_rfl) (by kernel_rfl) (by kernel_rfl) (fun _ _ _ h => h) (Or.inl ⟨by rfl, ?hy5⟩) hHeld ?rest5
          case hy5 => (intro w' hSw; (try dsimp only at hSw); go_simp; (try with_reducible rfl))
          try simp only [Act.put, List.setIfInBounds_toArray, List.set_cons_zero, List.set_cons_succ]
          refine wpAnyH_take (i := 6) (oi := { dst := some 47, op := Op.move (Operand.tmp 8), type := 3, pos := "near.go:80", after := #[], guard := none }) (v := ?v6) rfl (by kernel_rfl) (by kernel_rfl) (by kernel_rfl) (fun _ _ _ h => h) (Or.inl ⟨by rfl, ?hy6⟩) hHeld ?rest6
          case hy6 => (intro w' hSw; (try dsimp only at hSw); go_simp; (try with_reducible rfl))
          try simp only [Act.put, List.setIfInBounds_toArray, List.set_cons_zero, List.set_cons_succ]
          refine wpAnyH_take (i := 7) (oi := { dst := some 48, op := Op.indexAddr 23 (Operand.tmp 46) (Operand.tmp 47), type := 0, pos := "near.go:80", after := #[{ on := 5, ground := Ground.data }, { on := 6, ground := Ground.data }], guard := none }) (v := ?v7) rfl (by kernel_rfl) (by kernel_rfl) (by kernel_rfl) (fun _ _ _ h => h) (Or.inl ⟨by rfl, ?hy7⟩) hHeld ?rest7
          case hy7 => (intro w' hSw; (try dsimp only at hSw); go_simp; (try with_reducible rfl))
          try simp only [Act.put, List.setIfInBounds_toArray, List.set_cons_zero, List.set_cons_succ]
          refine wpAnyH_take (i := 8) (oi := { dst := some 49, op := Op.load 5 (Operand.tmp 48), type := 5, pos := "near.go:80", after := #[{ on := 7, ground := Ground.data }], guard := none }) (v := ?v8) rfl (by kernel_rfl) (by kernel_rfl) (by kernel_rfl) (fun _ _ _ h => h) (Or.inl ⟨by rfl, ?hy8⟩) hHeld ?rest8
          case hy8 => (intro w' hSw; (try dsimp only at hSw); go_simp; (try with_reducible rfl))
          try simp only [Act.put, List.setIfInBounds_toArray, List.set_cons_zero, List.set_cons_succ]
          refine wpAnyH_take (i := 9) (oi := { dst := some 50, op := Op.convert 5 3 (Operand.tmp 49), type := 3, pos := "near.go:80", after := #[{ on := 8, ground := Ground.data }], guard := none }) (v := .int .i64 (u.toNat : Int)) rfl (by kernel_rfl) (by kernel_rfl) (by kernel_rfl) (fun _ _ _ h => h) (Or.inl ⟨by rfl, ?hyV⟩) hHeld ?_
          case hyV => (intro w' hSw; (try dsimp only at hSw); go_simp; rw [EWU.out])
          try simp only [Act.put, List.setIfInBounds_toArray, List.set_cons_zero, List.set_cons_succ]
          refine wpAnyH_ready (rs := [4]) (by kernel_rfl) (by simp) (AllReadyH.cons (o := { dst := some 45, op := Op.call { callee := Callee.value (Operand.func 35), args := #[Operand.tmp 43, Operand.tmp 44], argTypes := #[23, 3] }, type := 23, pos := "near.go:80", after := #[{ on := 2, ground := Ground.data }, { on := 3, ground := Ground.data }], guard := none }) rfl (fun K hK => ?_) AllReadyH.nil)
          go_simp
          (with_reducible refine (HTR.out _).mono ?_)
          rintro e U2 ⟨rfl, rfl⟩
          go_wp2_with fail
          refine hK.out _ _ hHeld (fun hHeld' => ?_)
          clear hK K hHeld
          have hHeld := hHeld'
          clear hHeld'
          try simp only [Act.put, List.setIfInBounds_toArray, List.set_cons_zero, List.set_cons_succ]
          refine wpAnyH_take (i := 10) (oi := { dst := some 51, op := Op.build 62 #[(0, Operand.tmp 42), (1, Operand.tmp 45), (2, Operand.tmp 50)], type := 62, pos := "near.go:80", after := #[{ on := 1, ground := Ground.data }, { on := 4, ground := Ground.data }, { on := 9, ground := Ground.data }], guard := none }) (v := ?v9) rfl (by kernel_rfl) (by kernel_rfl) (by kernel_rfl) (fun _ _ _ h => h) (Or.inl ⟨by rfl, ?hy9⟩) hHeld ?rest9
          case hy9 => (intro w' hSw; (try dsimp only at hSw); go_simp; (try with_reducible rfl))
          try simp only [Act.put, List.setIfInBounds_toArray, List.set_cons_zero, List.set_cons_succ]
          refine wpAnyH_ready (rs := [11]) (by kernel_rfl) (by simp) (AllReadyH.cons (o := { dst := some 52, op := Op.buildSlice 53 1 #[(0, Operand.tmp 51)], type := 53, pos := "near.go:80", after := #[{ on := 10, ground := Ground.data }], guard := none }) rfl (fun K hK => ?_) AllReadyH.nil)
          go_simp
          obtain ⟨U3, hU3⟩ : ∃ V, (w3.alloc (.cells #[.pointer (some ⟨g, 0, none⟩), .slice (some ad) b b, .int .i64 (u.toNat : Int)] 62)).drew = V := ⟨_, rfl⟩
          have B3 := Lib.hid (show Below w3.heap.size w3 U3 by rw [← hU3]; exact ((Below.refl w3.heap.size w3).alloc (Nat.le_refl _) _).drew)
          have LB := Lib.hid (show Blk U3 w3.heap.size #[.pointer (some ⟨g, 0, none⟩), .slice (some ad) b b, .int .i64 (u.toNat : Int)] by rw [← hU3]; exact Blk.new w3 _ _)
          rw [hU3]
          clear hU3
          refine hK.out _ _ (KP.out _ B3.out) (fun hHeld' => ?_)
          clear hK K hHeld
          have hHeld := hHeld'
          clear hHeld'
          try simp only [Act.put, List.setIfInBounds_toArray, List.set_cons_zero, List.set_cons_succ]
          refine wpAnyH_ready (rs := [12]) (by kernel_rfl) (by simp) (AllReadyH.cons (o := { dst := some 53, op := Op.call { callee := Callee.builtin Builtin.append, args := #[Operand.tmp 41, Operand.tmp 52], argTypes := #[53, 53] }, type := 53, pos := "near.go:80", after := #[{ on := 0, ground := Ground.data }, { on := 11, ground := Ground.data }, { on := 4, ground := Ground.chain }], guard := none }) rfl (fun K hK => ?_) AllReadyH.nil)
          rw [if_pos (by rfl)]
          refine wp_append_rws _ (.tmp 41) (.tmp 52) _ rfl Tryz.underlying53 info_fork (by rfl) (by decide) w.heap.size (.slice F gs.length cf) gs.length (gs.map (fkC (some ad))) (by rfl) (MR.out _ B3.out) ⟨w3.heap.size, 0, none⟩ 1 [.pointer (some ⟨g, 0, none⟩), .slice (some ad) b b, .int .i64 (u.toNat : Int)] (by rfl) (by rfl) (tri_cells LB.out) tri_one (by have := HGS.out; omega) (by have := HGS.out; unfold maxLen; omega) (Nat.le_trans HW5.out.size B3.out.size) ?_
          intro v8 U4 m4 g4 _
          obtain ⟨F8, c8, rfl, hc8⟩ := m4.slice
          obtain ⟨K2, K4⟩ := KM.out U3 U4 B3.out g4
          have M4 := Lib.hid (And.intro m4 hc8)
          have B4 := Lib.hid K2
          have S4 := Lib.hid K4
          clear m4 g4 hc8 K2 K4
          refine hK.out _ _ S4.out (fun hHeld' => ?_)
          clear hK K hHeld
          have hHeld := hHeld'
          clear hHeld'
          try simp only [Act.put, List.setIfInBounds_toArray, List.set_cons_zero, List.set_cons_succ]
          refine wpAnyH_take (i := 13) (oi := { dst := some 7, op := Op.assign (Operand.tmp 53), type := 53, pos := "near.go:80", after := #[{ on := 12, ground := Ground.data }, { on := 12, ground := Ground.chain }, { on := 0, ground := Ground.phase }, { on := 1, ground := Ground.phase }, { on := 2, ground := Ground.phase }, { on := 3, ground := Ground.phase }, { on := 4, ground := Ground.phase }, { on := 5, ground := Ground.phase }, { on := 6, ground := Ground.phase }, { on := 7, ground := Ground.phase }, { on := 8, ground := Ground.phase }, { on := 9, ground := Ground.phase }, { on := 10, ground := Ground.phase }, { on := 11, ground := Ground.phase }, { on := 12, ground := Ground.phase }], guard := none }) (v := ?v10) rfl (by kernel_rfl) (by kernel_rfl) (by kernel_rfl) (fun _ _ _ h => h) (Or.inl ⟨by rfl, ?hy10⟩) hHeld ?rest10
          case hy10 => (intro w' hSw; (try dsimp only at hSw); go_simp; (try with_reducible rfl))
          try simp only [Act.put, List.setIfInBounds_toArray, List.set_cons_zero, List.set_cons_succ]
          refine wpAnyH_done (by kernel_rfl) ?_ _
          have c1 := S4.out
          obtain ⟨be, A4, e4, hN4, hI4⟩ := (HT.out.below (fun _ q => q) ((HB3.out.mono HS.out.below.size).trans B4.out)).nod
          have HKD := Lib.hid (nkid_any hN4 u (u.toNat : Int) rfl)
          have OT := Lib.hid (hI4.kid_ u hN4.up)
          have H4 := Lib.hid (show Below w.heap.size w U4 from (HST.out w3 HB3.out).below.trans B4.out)
          have hwn : k.wf 1 := HS.out.wf
          have HKW := Lib.hid (show owf (k.kid u) ∧ ofull (k.kid u) from ⟨by
            rcases hk : k.kid u with _ | t2
            · exact trivial
            · exact Fo.kid_wf hwn hk, Fo.kid_full HS.out.full.2⟩)
          have HMY := Lib.hid (show gs.length ≤ b from by have := HS.out.many; have := HAB.out; omega)
          clear hN4 hI4 hwn
          go_wp2_with fail
          (with_reducible refine HKD.out.mono ?_)
          rintro e w6 ⟨rfl, s6⟩
          have e1 : (gs ++ [(Fk.mk x k (key.take b) u, g)]).length = gs.length + 1 := by simp
          have e2 : (gs ++ [(Fk.mk x k (key.take b) u, g)]).map (fkC (some ad)) = gs.map (fkC (some ad)) ++ [[.pointer (some ⟨g, 0, none⟩), .slice (some ad) b b, .int .i64 (u.toNat : Int)]] := by
            rw [List.map_append]
            show _ ++ [fkC (some ad) (Fk.mk x k (key.take b) u, g)] = _
            unfold fkC
            rw [HQ.out.2]
          have b6 := s6.below U4.heap.size
          have b6w := b6.mono H4.out.size
          have FIN := Lib.hid (show AloS w (olist t) (some ad) key (gs ++ [(Fk.mk x k (key.take b) u, g)]) (k.kid u) (getE e4 u.toNat) F8 c8 (b + 1) w6 ∧ b + 1 ≤ n from
            ⟨⟨by rw [List.map_append]; exact HQ.out.1, .inl (by have := HL.out; have := HBN.out; omega), HKW.out.1, HKW.out.2, otre_on OT.out b6w, by rw [e1, e2]; exact M4.out.1.below b6 (fun i q => (M4.out.1.lt i q).2), by rw [e1]; exact M4.out.2,
              fun p hp => by
                rcases List.mem_append.1 hp with hp | hp
                · exact (((HST.out w3 HB3.out).ok p hp).below B4.out).below b6w
                · obtain rfl := List.mem_singleton.1 hp
                  exact ⟨((HT.out.below (fun _ q => q) ((HB3.out.mono HS.out.below.size).trans B4.out)).below (fun _ q => q) b6w), by show key.take b = key.take (key.take b).length; rw [HQ.out.2], by show (key.take b).length ≤ _; rw [HQ.out.2, HL.out]; exact Nat.le_of_lt HBN.out, HS.out.full.2⟩,
              by rw [e1]; exact Nat.succ_le_succ HMY.out, H4.out.trans b6w⟩, HBN.out⟩)
          have e1' := Lib.hid e1
          clear s6 e2 b6 b6w HKD OT
          go_wp2_with fail
          exact ⟨⟨gs ++ [(Fk.mk x k (key.take b) u, g)], k.kid u, getE e4 u.toNat, F8, c8, b + 1, rfl, by rw [e1'.out], rfl, FIN⟩, by have := HBN.out; have := HAB.out; simp [intOf]; omega⟩
end Go.Proofs.YtidiinededalmaaGreat
