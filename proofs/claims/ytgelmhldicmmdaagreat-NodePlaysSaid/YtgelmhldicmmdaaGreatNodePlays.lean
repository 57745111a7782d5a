/-
  Proved here: nodes answer every call, in every order, as the document's do; each is what the document's is, also behind what was done with others; the meter counts those that were made; nothing that came in is turned. No condition.
-/
import Derived.Test.YtgelmhldicmmdaaGreatWdStepA
import Derived.Test.YtgelmhldicmmdaaGreatWdFar
import Derived.Test.YtgelmhldicmmdaaGreatWdAs
import Derived.Test.YtgelmhldicmmdaaGreatNdAlive
import Derived.Deep.CutBlock
import Derived.Deep.DeepCutAuto
namespace Go.Proofs.YtgelmhldicmmdaaGreat.nodePlays
open Go.ChangeShapes Go.WideShapes Go.ChangeAt Go.RowKit

section
variable {fb : FB} {w0 w w' : World} {X : Nat} {l : List (Nat × Nd)} {ds : List (List Value)}
theorem on_ (h : Wst fb w0 w X l ds) (hb : Below w.heap.size w w') : Wst fb w0 w' X l ds := by
  obtain ⟨vl, vw, h1, h2⟩ := h; exact ⟨vl, vw, h1.on hb, h2⟩
theorem below_ (h : Wst fb w0 w X l ds) : Below w0.heap.size w0 w := by obtain ⟨vl, vw, h1, _⟩ := h; exact h1.below
theorem lt_ (h : Wst fb w0 w X l ds) : X < w.heap.size := by obtain ⟨vl, vw, h1, _⟩ := h; exact Blk.lt h1.blk
theorem len_ (h : Wst fb w0 w X l ds) : ∃ A c, w.cell? ⟨X, 1, none⟩ = some (.slice A l.length c) := by
  obtain ⟨vl, vw, h1, _⟩ := h
  obtain ⟨A, c, e, _⟩ := h1.lst.slice
  exact ⟨A, c, e ▸ h1.cL⟩
theorem cnt_ (h : Wst fb w0 w X l ds) : w.cell? ⟨X, 0, none⟩ = some (.int .i64 (l.length : Int)) ∧ w.cell? ⟨X, 3, none⟩ = some (.int .i64 (l.length : Int)) := by
  obtain ⟨vl, vw, h1, _⟩ := h
  exact ⟨by rw [Lst.at_ h1.blk]; rfl, by rw [Lst.at_ h1.blk]; rfl⟩
set_option maxRecDepth 100000 in
theorem as_ (h : Wst fb w0 w X l ds) (hf : l.length ≤ 1000) {j : Nat} (hj : j < l.length) (a : Int) (ha : -9223372036854775808 ≤ a ∧ a ≤ 9223372036854775807) :
    Calls Tryz.prog 7 #[ptrN X, .int .i64 (j : Int), .int .i64 a] w fun e w' => e = .returned (.bool true) ∧ Below w.heap.size w w' := by
  obtain ⟨vl, vw, h1, h2⟩ := h
  obtain ⟨⟨g, x⟩, hp⟩ : ∃ p, l[j]? = some p := ⟨_, List.getElem?_eq_getElem hj⟩
  obtain ⟨L, hL⟩ : ∃ L, ds[j]? = some L := ⟨_, List.getElem?_eq_getElem (by rw [h2.1]; exact hj)⟩
  exact was_any h1 hp hp hL (h2.2 j _ L hp hL) hf h2.1 a ha
/-- A block more that is nobody's. -/
theorem with_ {c : Array Value} (h : Wst none w0 w X l ds) (hb : Below w.heap.size w w') (hc : Blk w' w.heap.size c) : Wst (some (w.heap.size, c)) w0 w' X l ds := by
  obtain ⟨vl, vw, h, hd⟩ := h
  have q := h.on hb
  refine ⟨vl, vw, ⟨q.blk, q.lst, q.row, (h.nd.more (fun i z => ?_)).below hb, q.below, q.lo, q.ne1, q.ne2, q.ne, fun g c' e => ?_⟩, hd⟩
  · rcases z with z | z | z | ⟨c', e⟩
    · exact .inl (.inl z)
    · exact .inl (.inr (.inl z))
    · exact .inl (.inr (.inr (.inl z)))
    · simp only [Option.some.injEq, Prod.mk.injEq] at e
      exact .inr (by omega)
  · simp only [Option.some.injEq, Prod.mk.injEq] at e
    obtain ⟨rfl, rfl⟩ := e
    exact ⟨hc, h.below.size, fun e => by have := Blk.lt h.blk; omega, fun e => by have := (h.lst.lt _ e).2; omega, fun e => by have := (h.row.lt _ e).2; omega⟩
theorem cells_ {g : Nat} {c : Array Value} (h : Wst (some (g, c)) w0 w X l ds) : Blk w g c := by obtain ⟨vl, vw, h, _⟩ := h; exact (h.fo g c rfl).1
theorem without_ (h : Wst fb w0 w X l ds) : Wst none w0 w X l ds := by
  obtain ⟨vl, vw, h, hd⟩ := h
  refine ⟨vl, vw, ⟨h.blk, h.lst, h.row, h.nd.more (fun i z => .inl ?_), h.below, h.lo, h.ne1, h.ne2, h.ne, fun g c e => by cases e⟩, hd⟩
  rcases z with z | z | z | ⟨c', e⟩
  · exact .inl z
  · exact .inr (.inl z)
  · exact .inr (.inr (.inl z))
  · cases e
theorem start_ (hb : Below w0.heap.size w0 w) (hX : w0.heap.size ≤ X) (hc : Blk w X #[.int .i64 0, .slice none 0 0, .slice none 0 0, .int .i64 0]) : Wst none w0 w X [] [] :=
  ⟨.slice none 0 0, .slice none 0 0, ⟨hc, MineR.nil _ _ _ _, MineR.nil _ _ _ _, Ns.none_ _ _ _, hb, hX, (fun e => by cases e), (fun e => by cases e), (fun _ e => by cases e), (fun _ _ e => by cases e)⟩, ⟨rfl, fun k p L hp _ => by cases hp⟩⟩
end

set_option maxRecDepth 100000 in
set_option maxHeartbeats 8000000 in
theorem walk (A : Option Addr) (n c : Nat) (ss : List Stn) (y : Int) (w : World) (hs : Sns w w.heap.size A n ss) (nc : n ≤ c) (wy : (Lit.int .i64 y).wf = true) :
    Calls Tryz.prog 3 #[.slice A n c, .int .i64 y] w fun e w' => e = .returned (.bool true) ∧ Below w.heap.size w w' := by
  have hmx : n ≤ 9223372036854775807 := by have := hs.1.2.1; unfold maxLen at this; omega
  have hy : -9223372036854775808 ≤ y ∧ y ≤ 9223372036854775807 := by simpa [Lit.wf, IntKind.min, IntKind.max, IntKind.signed, IntKind.bits] using wy
  have HY := Lib.hid hy
  have HS := Lib.hid hs
  have CF := Lib.hid (far_any A n c ss w hs nc)
  clear wy hy hs
  go_enter Tryz.func3, Tryz.ntmps3
  go_wp2_with fail
  (with_reducible refine CF.out.mono ?_)
  rintro e w1 ⟨b, rfl, hb, h1⟩
  have B1 := Lib.hid h1
  have HB := Lib.hid hb
  clear h1 CF hb
  cases b with
  | true =>
    go_wp2_with fail
    (with_reducible refine (nalive_any _).mono ?_)
    rintro e w2 ⟨rfl, h2⟩
    have B2 := Lib.hid (B1.out.trans (h2.mono B1.out.size))
    clear h2
    go_wp2
    go_ret
    exact ⟨rfl, B2.out⟩
  | false =>
    have hf60 : n ≤ 60 := (HB.out rfl).1
    have HP := Lib.hid (HB.out rfl).2
    clear HB
    obtain ⟨W, hW⟩ : ∃ W, w1.alloc (.cells #[.int .i64 0, .slice none 0 0, .slice none 0 0, .int .i64 0] 36) = W := ⟨_, rfl⟩
    have BW : Below w.heap.size w W := by rw [← hW]; exact B1.out.alloc B1.out.size _
    obtain ⟨X, hX⟩ : ∃ X, w1.heap.size = X := ⟨_, rfl⟩
    have SW := Lib.hid (start_ (X := X) BW (by rw [← hX]; exact B1.out.size) (by rw [← hW, ← hX]; exact Blk.new w1 _ _))
    have HW := Lib.hid hW
    clear BW hW
    go_upto_region 4 with fail
    try rw [HW.out]
    try rw [hX]
    clear hX HW B1
    go_wp2_with fail
    go_loopw [17] (fun i wr => ∃ (k : Nat) (l : List (Nat × Nd)) (ds : List (List Value)), k ≤ n ∧ i = .int .i64 k ∧ l.length ≤ k ∧ Hid (Wst none w wr X l ds)) (fun i _ => n - (intOf i).toNat)
    case atStart => exact ⟨0, [], [], Nat.zero_le _, rfl, Nat.zero_le _, SW⟩
    case round =>
      clear SW
      obtain ⟨k, l, ds, hk, rfl, hlk, BK⟩ := hrel
      by_cases h1 : k < n
      · obtain ⟨ad, s, rfl, hadb, hsk, hd0, hd1, hd2, hd3, hd4, hd5, hd6, _, hfn⟩ := (HS.out.below (below_ BK.out)).at7 (k := k) (by omega)
        have hmem := List.mem_of_getElem? hsk
        have HPB := Lib.hid (fun V (q : Below w.heap.size w V) => (HS.out.2 s hmem).1.below q)
        have HN3 := Lib.hid (HP.out s hmem)
        have HFN := Lib.hid hfn
        clear hsk hadb hmem hfn
        obtain ⟨gs, hgs⟩ : ∃ gs, wr.heap.size = gs := ⟨_, rfl⟩
        obtain ⟨V1, hV1⟩ : ∃ V1, wr.alloc (.cells #[.int .u8 s.d, .int .u16 s.i, .int .u16 s.j, .int .u8 s.o, .int .u8 (s.b.toNat : Int), .slice s.A s.n s.c, .int .u64 s.v] 41) = V1 := ⟨_, rfl⟩
        have hA : Below wr.heap.size wr V1 := by rw [← hV1]; exact (Below.refl _ _).alloc (Nat.le_refl _) _
        have hst : Blk V1 wr.heap.size #[.int .u8 s.d, .int .u16 s.i, .int .u16 s.j, .int .u8 s.o, .int .u8 (s.b.toNat : Int), .slice s.A s.n s.c, .int .u64 s.v] := by rw [← hV1]; exact Blk.new wr _ _
        have S1 := Lib.hid (with_ BK.out hA hst)
        rw [hgs] at S1
        have HV1 := Lib.hid hV1
        clear hst hV1 hA
        have C1 := Lib.hid (wstep_any S1.out (by omega) s.d s.i s.j s.o s.v s.b s.A s.n s.c s.p HPB.out (by have := HN3.out; omega) HFN.out.2.2.2.1 HFN.out.1 HFN.out.2.1 HFN.out.2.2.1)
        go_upto_region 7 with fail
        try rw [HV1.out]
        try rw [hgs]
        clear HV1 hgs
        have Q1 := Lib.hid (Lst.all (l := [.int .u8 s.d, .int .u16 s.i, .int .u16 s.j, .int .u8 s.o, .int .u8 (s.b.toNat : Int), .slice s.A s.n s.c, .int .u64 s.v]) (cells_ S1.out))
        go_wp2_with (refine wpList_load_mid rfl 41 (.tmp 7) rfl gs 0 (by rfl) [.int .u8 s.d, .int .u16 s.i, .int .u16 s.j, .int .u8 s.o, .int .u8 (s.b.toNat : Int), .slice s.A s.n s.c, .int .u64 s.v] _ Q1.out Tryz.underlying41 rfl (by kernel_rfl) ?_)
        (with_reducible refine C1.out.mono ?_)
        rintro e w2 ⟨rfl, l', ds', hw2, c1, c2, c3⟩
        have S2 := Lib.hid hw2
        clear hw2 C1 Q1 S1 BK hd0 hd1 hd2 hd3 hd4 hd5 hd6
        have hlk' : l'.length ≤ k + 1 := by omega
        clear c1 c2 hlk
        obtain ⟨Al, cl, hcl⟩ := len_ S2.out
        have st1 : w2.cell? ⟨gs, 1, none⟩ = some (.int .u16 s.i) := (cells_ S2.out).cell 1
        obtain ⟨kk, hki⟩ : ∃ kk : Nat, s.i % (l'.length : Int) = (kk : Int) := ⟨(s.i % (l'.length : Int)).toNat, by have := Int.emod_nonneg s.i (show (l'.length : Int) ≠ 0 by omega); omega⟩
        have hkl : kk < l'.length := by have := Int.emod_lt_of_pos s.i (show (0 : Int) < (l'.length : Int) by omega); omega
        have hit : s.i.tmod (l'.length : Int) = (kk : Int) := by rw [Int.tmod_eq_emod_of_nonneg HFN.out.2.1.1]; exact hki
        have ewi : IntKind.i64.wrap s.i = s.i := by rw [IntKind.wrap_i64]; have := HFN.out.2.1; omega
        have nzl : ¬ ((l'.length : Int) = 0) := by omega
        go_upto_region 9 with fail
        go_quiet (fail)
        obtain ⟨U, hU⟩ : ∃ U, w2.drewN nq = U := ⟨_, rfl⟩
        have hbU : Below w2.heap.size w2 U := by rw [← hU]; exact Still.below ⟨nq, rfl⟩ _
        have S3 := Lib.hid (on_ S2.out hbU)
        have CA := Lib.hid (fun (V : World) (q : Below U.heap.size U V) (j : Nat) (hj : j < l'.length) (a : Int) (ha : -9223372036854775808 ≤ a ∧ a ≤ 9223372036854775807) => as_ (on_ S3.out q) (by omega) hj a ha)
        have CL := Lib.hid (fun (V : World) (q : Below U.heap.size U V) => len_ (on_ S3.out q))
        have st4 : U.cell? ⟨gs, 4, none⟩ = some (.int .u8 (s.b.toNat : Int)) := (cells_ S3.out).cell 4
        have blt := s.b.toNat_lt
        have HBy := Lib.hid (show -9223372036854775808 ≤ (s.b.toNat : Int) ∧ (s.b.toNat : Int) ≤ 9223372036854775807 by omega)
        rw [hU]
        clear hU hbU S2 hcl st1 hki hit ewi nzl
        go_wp2_with fail
        (with_reducible refine (CA.out U (Below.refl _ _) kk hkl _ HBy.out).mono ?_)
        rintro e w3 ⟨rfl, h3⟩
        have B3 := Lib.hid h3
        clear h3 st4
        go_wp2_with fail
        (with_reducible refine (CA.out w3 B3.out kk hkl y HY.out).mono ?_)
        rintro e w4 ⟨rfl, h4⟩
        have B4 := Lib.hid (B3.out.trans (h4.mono B3.out.size))
        clear h4 B3
        obtain ⟨Am, cm, hcm⟩ := CL.out w4 B4.out
        have ewm : IntKind.i64.wrap ((l'.length : Int) - 1) = ((l'.length - 1 : Nat) : Int) := by rw [IntKind.wrap_i64]; omega
        go_wp2_with fail
        (with_reducible refine (CA.out w4 B4.out (l'.length - 1) (by omega) y HY.out).mono ?_)
        rintro e w5 ⟨rfl, h5⟩
        have B5 := Lib.hid (B4.out.trans (h5.mono B4.out.size))
        have B6 := Lib.hid (without_ (on_ S3.out B5.out))
        clear h5 B4
        go_wp2
        exact ⟨⟨k + 1, l', ds', by omega, by go_num, hlk', B6⟩, by simp [intOf]; omega⟩
      · obtain rfl : k = n := by omega
        obtain ⟨Al, cl, hcl⟩ := len_ BK.out
        have hl60 : l.length ≤ 60 := by omega
        clear h1 hk
        go_wp2_with fail
        clear hcl
        have CA := Lib.hid (fun (V : World) (q : Wst none w V X l ds) (j : Nat) (hj : j < l.length) (a : Int) (ha : -9223372036854775808 ≤ a ∧ a ≤ 9223372036854775807) => as_ q (by omega) hj a ha)
        go_loopw [66] (fun i wr2 => ∃ j : Nat, j ≤ l.length ∧ i = .int .i64 j ∧ Hid (Wst none w wr2 X l ds)) (fun i _ => l.length - (intOf i).toNat)
        case atStart => exact ⟨0, Nat.zero_le _, rfl, BK⟩
        case round =>
          clear BK
          obtain ⟨j, hj, rfl, BJ⟩ := hrel
          by_cases h2 : j < l.length
          · go_wp2_with fail
            (with_reducible refine (CA.out _ BJ.out j h2 y HY.out).mono ?_)
            rintro e w3 ⟨rfl, h3⟩
            have B3 := Lib.hid (on_ BJ.out h3)
            clear h3
            go_wp2_with fail
            (with_reducible refine (CA.out _ B3.out j h2 0 (by omega)).mono ?_)
            rintro e w4 ⟨rfl, h4⟩
            have B4 := Lib.hid (on_ B3.out h4)
            clear h4
            go_wp2
            exact ⟨⟨j + 1, by omega, by go_num, B4⟩, by simp [intOf]; omega⟩
          · obtain rfl : j = l.length := by omega
            clear CA h2 hj
            go_upto_region 19 with fail
            have B1 := Lib.hid (on_ BJ.out (show Below wr.heap.size wr wr.drew from (Below.refl _ _).drew))
            have c3 : wr.drew.cell? ⟨X, 3, none⟩ = some (.int .i64 (l.length : Int)) := (cnt_ B1.out).2
            have C19 := Lib.hid (count_any (hc := (cnt_ B1.out).1))
            have B2 := Lib.hid (below_ B1.out)
            have LX := Lib.hid (lt_ B1.out)
            refine wp_region_held_drew (S := (fun w' => w'.cell? ⟨X, 3, none⟩ = some (.int .i64 (l.length : Int)))) (by kernel_rfl) c3 (fun hHeld => ?_)
            refine wpAnyH_take (i := 0) (oi := { dst := some 81, op := Op.move (Operand.tmp 5), type := 25, pos := "law.go:154", after := #[], guard := none }) (v := ?v1) rfl (by kernel_rfl) (by kernel_rfl) (by kernel_rfl) (fun _ _ _ h => h) (Or.inl ⟨by rfl, ?hy1⟩) hHeld ?rest1
            case hy1 => (intro w' hSw; (try dsimp only at hSw); go_simp; (try with_reducible rfl))
            try simp only [Act.put, List.setIfInBounds_toArray, List.set_cons_zero, List.set_cons_succ]
            refine wpAnyH_take (i := 1) (oi := { dst := some 82, op := Op.nilCheck (Operand.tmp 81), type := 0, pos := "law.go:154", after := #[{ on := 0, ground := Ground.data }], guard := none }) (v := ?v2) rfl (by kernel_rfl) (by kernel_rfl) (by kernel_rfl) (fun _ _ _ h => h) (Or.inl ⟨by rfl, ?hy2⟩) hHeld ?rest2
            case hy2 => (intro w' hSw; (try dsimp only at hSw); go_simp; (try with_reducible rfl))
            try simp only [Act.put, List.setIfInBounds_toArray, List.set_cons_zero, List.set_cons_succ]
            refine wpAnyH_take (i := 2) (oi := { dst := some 83, op := Op.fieldAddr 36 (Operand.tmp 82) 0, type := 0, pos := "law.go:154", after := #[{ on := 1, ground := Ground.data }], guard := none }) (v := ?v3) rfl (by kernel_rfl) (by kernel_rfl) (by kernel_rfl) (fun _ _ _ h => h) (Or.inl ⟨by rfl, ?hy3⟩) hHeld ?rest3
            case hy3 => (intro w' hSw; (try dsimp only at hSw); go_simp; (try with_reducible rfl))
            try simp only [Act.put, List.setIfInBounds_toArray, List.set_cons_zero, List.set_cons_succ]
            refine wpAnyH_take (i := 4) (oi := { dst := some 85, op := Op.move (Operand.tmp 5), type := 25, pos := "law.go:154", after := #[], guard := none }) (v := ?v4) rfl (by kernel_rfl) (by kernel_rfl) (by kernel_rfl) (fun _ _ _ h => h) (Or.inl ⟨by rfl, ?hy4⟩) hHeld ?rest4
            case hy4 => (intro w' hSw; (try dsimp only at hSw); go_simp; (try with_reducible rfl))
            try simp only [Act.put, List.setIfInBounds_toArray, List.set_cons_zero, List.set_cons_succ]
            refine wpAnyH_take (i := 5) (oi := { dst := some 86, op := Op.nilCheck (Operand.tmp 85), type := 0, pos := "law.go:154", after := #[{ on := 4, ground := Ground.data }], guard := none }) (v := ?v5) rfl (by kernel_rfl) (by kernel_rfl) (by kernel_rfl) (fun _ _ _ h => h) (Or.inl ⟨by rfl, ?hy5⟩) hHeld ?rest5
            case hy5 => (intro w' hSw; (try dsimp only at hSw); go_simp; (try with_reducible rfl))
            try simp only [Act.put, List.setIfInBounds_toArray, List.set_cons_zero, List.set_cons_succ]
            refine wpAnyH_take (i := 6) (oi := { dst := some 87, op := Op.fieldAddr 36 (Operand.tmp 86) 3, type := 0, pos := "law.go:154", after := #[{ on := 5, ground := Ground.data }], guard := none }) (v := ?v6) rfl (by kernel_rfl) (by kernel_rfl) (by kernel_rfl) (fun _ _ _ h => h) (Or.inl ⟨by rfl, ?hy6⟩) hHeld ?rest6
            case hy6 => (intro w' hSw; (try dsimp only at hSw); go_simp; (try with_reducible rfl))
            try simp only [Act.put, List.setIfInBounds_toArray, List.set_cons_zero, List.set_cons_succ]
            refine wpAnyH_take (i := 7) (oi := { dst := some 88, op := Op.load 3 (Operand.tmp 87), type := 3, pos := "law.go:154", after := #[{ on := 6, ground := Ground.data }], guard := none }) (v := ?v7) rfl (by kernel_rfl) (by kernel_rfl) (by kernel_rfl) (fun _ _ _ h => h) (Or.inl ⟨by rfl, ?hy7⟩) hHeld ?rest7
            case hy7 => (intro w' hSw; (try dsimp only at hSw); go_simp; (try with_reducible rfl))
            try simp only [Act.put, List.setIfInBounds_toArray, List.set_cons_zero, List.set_cons_succ]
            refine wpAnyH_ready (rs := [3]) (by kernel_rfl) (by simp) (AllReadyH.cons (o := { dst := some 84, op := Op.call { callee := Callee.value (Operand.func 8), args := #[Operand.tmp 83], argTypes := #[32] }, type := 3, pos := "law.go:154", after := #[{ on := 2, ground := Ground.data }], guard := none }) rfl (fun K hK => ?_) AllReadyH.nil)
            go_simp
            (with_reducible refine C19.out.mono ?_)
            rintro e w2 ⟨rfl, rfl⟩
            clear C19
            go_wp2_with fail
            refine hK.out _ _ c3 (fun hHeld' => ?_)
            clear hK K hHeld
            have hHeld := hHeld'
            clear hHeld'
            try simp only [Act.put, List.setIfInBounds_toArray, List.set_cons_zero, List.set_cons_succ]
            refine wpAnyH_take (i := 8) (oi := { dst := some 89, op := Op.binOp BinOp.eql 3 (Operand.tmp 84) (Operand.tmp 88) 3, type := 4, pos := "law.go:154", after := #[{ on := 3, ground := Ground.data }, { on := 7, ground := Ground.data }], guard := none }) (v := ?v8) rfl (by kernel_rfl) (by kernel_rfl) (by kernel_rfl) (fun _ _ _ h => h) (Or.inl ⟨by rfl, ?hy8⟩) hHeld ?rest8
            case hy8 => (intro w' hSw; (try dsimp only at hSw); go_simp; (try with_reducible rfl))
            try simp only [Act.put, List.setIfInBounds_toArray, List.set_cons_zero, List.set_cons_succ]
            refine wpAnyH_take (i := 9) (oi := { dst := some 90, op := Op.move (Operand.tmp 89), type := 4, pos := "law.go:154", after := #[{ on := 8, ground := Ground.data }, { on := 3, ground := Ground.chain }], guard := none }) (v := ?v9) rfl (by kernel_rfl) (by kernel_rfl) (by kernel_rfl) (fun _ _ _ h => h) (Or.inl ⟨by rfl, ?hy9⟩) hHeld ?rest9
            case hy9 => (intro w' hSw; (try dsimp only at hSw); go_simp; (try with_reducible rfl))
            try simp only [Act.put, List.setIfInBounds_toArray, List.set_cons_zero, List.set_cons_succ]
            refine wpAnyH_ready (rs := [10]) (by kernel_rfl) (by simp) (AllReadyH.cons (o := { dst := some 91, op := Op.call { callee := Callee.value (Operand.func 5), args := #[], argTypes := #[] }, type := 4, pos := "law.go:154", after := #[{ on := 9, ground := Ground.chain }, { on := 9, ground := Ground.guard }], guard := some (9, true) }) rfl (fun K hK => ?_) AllReadyH.nil)
            try rw [if_pos (by rfl)]
            go_simp
            (with_reducible refine (nalive_any _).mono ?_)
            rintro e w3 ⟨rfl, h3⟩
            have B3 := Lib.hid (B2.out.trans (h3.mono B2.out.size))
            have c3 := (h3.cell (p := ⟨X, 3, none⟩) LX.out).trans c3
            clear h3
            go_wp2_with fail
            refine hK.out _ _ c3 (fun hHeld' => ?_)
            clear hK K hHeld
            have hHeld := hHeld'
            clear hHeld'
            try simp only [Act.put, List.setIfInBounds_toArray, List.set_cons_zero, List.set_cons_succ]
            refine wpAnyH_take (i := 11) (oi := { dst := some 92, op := Op.pick (Operand.tmp 90) (Operand.tmp 91) (Operand.const (Value.bool false)), type := 4, pos := "law.go:154", after := #[{ on := 9, ground := Ground.data }, { on := 10, ground := Ground.data }], guard := none }) (v := ?v10) rfl (by kernel_rfl) (by kernel_rfl) (by kernel_rfl) (fun _ _ _ h => h) (Or.inl ⟨by rfl, ?hy10⟩) hHeld ?rest10
            case hy10 => (intro w' hSw; (try dsimp only at hSw); go_simp; (try with_reducible rfl))
            try simp only [Act.put, List.setIfInBounds_toArray, List.set_cons_zero, List.set_cons_succ]
            refine wpAnyH_take (i := 12) (oi := { dst := some 4, op := Op.assign (Operand.tmp 92), type := 4, pos := "law.go:154", after := #[{ on := 11, ground := Ground.data }, { on := 10, ground := Ground.chain }, { on := 0, ground := Ground.phase }, { on := 1, ground := Ground.phase }, { on := 2, ground := Ground.phase }, { on := 3, ground := Ground.phase }, { on := 4, ground := Ground.phase }, { on := 5, ground := Ground.phase }, { on := 6, ground := Ground.phase }, { on := 7, ground := Ground.phase }, { on := 8, ground := Ground.phase }, { on := 9, ground := Ground.phase }, { on := 10, ground := Ground.phase }, { on := 11, ground := Ground.phase }], guard := none }) (v := ?v11) rfl (by kernel_rfl) (by kernel_rfl) (by kernel_rfl) (fun _ _ _ h => h) (Or.inl ⟨by rfl, ?hy11⟩) hHeld ?rest11
            case hy11 => (intro w' hSw; (try dsimp only at hSw); go_simp; (try with_reducible rfl))
            try simp only [Act.put, List.setIfInBounds_toArray, List.set_cons_zero, List.set_cons_succ]
            refine wpAnyH_done (by kernel_rfl) ?_ _
            go_wp2
            go_ret
            exact ⟨rfl, B3.out⟩

set_option maxRecDepth 100000 in
theorem lifted (os : Os) (started : os.Started) (H : Type) (enc : TypeId × Value → H) :
    ReturnsInHanded {} Tryz.checked os 3 .any (Rows.nodePlaysSpec.pre6 enc Tryz.prog Tryz.f3 Rows.nodePlaysRow.domain false) (Rows.nodePlaysSpec.post enc Tryz.prog Tryz.f3 false true false false) := by
  refine returnsInHanded_of_change (C := Tryz.checked) own started (by kernel_rfl) Tryz.func3
    (ChangeSpec.witness6 (enc := enc) (C := Tryz.checked) false ⟨#[], #[.slice none 0 0, .int .i64 0], []⟩ 8 (by kernel_rfl) (by kernel_rfl) (by kernel_rfl) (by kernel_rfl)) ?_
  intro W base args ds gs before hval0 hW hcnd _
  have hval : ∀ (j : Nat) t v, Tryz.f3.params[j]? = some t → args[j]? = some v → Value.okWide Tryz.prog W .any base t v := hval0
  have hW' := hW
  obtain ⟨p, q, hA0, hV, rfl, hfz, hnd⟩ := hW
  have hA : DataW.TrodAll enc Tryz.prog W 0 (fun _ => true) true Tryz.f3.params.toList args.toList ds p := hA0
  rw [Tryz.params3] at hA hval
  obtain ⟨v0, vs0, d0, ds0, p0, q0, hargs, rfl, rfl, h0, r0⟩ := trodAll_cons hA
  obtain ⟨v1, vs1, d1, ds1, p1, q1, rfl, rfl, rfl, h1, r1⟩ := trodAll_cons r0
  obtain ⟨rfl, rfl, rfl⟩ := trodAll_nil r1
  obtain rfl : args = #[v0, v1] := by cases args; simp_all
  obtain ⟨rfl, rfl⟩ := trodVars_none hV
  have k0 := h0
  have lt0 : ∀ x ∈ p0, x.block < W.heap.size := by obtain ⟨m, hm⟩ := k0; exact DataW.trod_lt m _ _ _ hm
  have k1 := h1
  have lt1 : ∀ x ∈ p1, x.block < W.heap.size := by obtain ⟨m, hm⟩ := k1; exact DataW.trod_lt m _ _ _ hm
  obtain ⟨A0, n0, c0, l0, rfl, b0, nc0⟩ := open_sns (hval 0 22 v0 rfl rfl) h0
  obtain ⟨x1, rfl, _, _, wx1⟩ := open_int Tryz.underlying3 (hval 1 3 v1 rfl rfl) h1
  clear hA0 hval0
  refine (walk A0 n0 c0 l0 x1 W b0 nc0 wx1).mono fun e W' ⟨he, bel⟩ => ?_
  subst he
  exact ⟨_, rfl, _, _, _, [], _, [], hW', trodAll_mk1 (shut_bool Tryz.underlying4 _), (trodAll_cons_mk (Below.trod laidOut (by kernel_rfl) (of_decide_eq_true (by kernel_rfl)) k0 bel lt0) (trodAll_cons_mk (Below.trod laidOut (by kernel_rfl) (of_decide_eq_true (by kernel_rfl)) k1 bel lt1) trodAll_mk0)), rfl, bel.frame _, fun h => by cases h⟩

set_option maxRecDepth 100000 in
theorem proved : Rows.NodePlaysSaid :=
  OpenClaim.holds_of_wide 3 Tryz.f3 rfl rfl rfl rfl rfl rfl rfl ⟨rfl, rfl, rfl, rfl, rfl⟩ rfl rfl rfl rfl rfl (by kernel_rfl) Tryz.func3 (by kernel_rfl)
    (of_decide_eq_true (by kernel_rfl)) (by unfold Func.isWrapper; first | (rw [if_pos (by decide +kernel)]; kernel_rfl) | (rw [if_neg (by decide +kernel)]; exact ⟨rfl, rfl⟩))
    (fun os started H enc _ => lifted os started H enc)
end Go.Proofs.YtgelmhldicmmdaaGreat.nodePlays
