/-
  What the statements' own alive of layer 7 answers: yes.
-/
import Derived.Test.YtofccfbiappgaaaDoorBndOf
import Derived.Test.YtofccfbiappgaaaDoorBndMeet
import Derived.Deep.RegionHeld3
namespace Go.Proofs.YtofccfbiappgaaaDoor
open Go.RowKit

def bF : List Fd := [⟨1, false⟩]
def bV : List Vl := [⟨1, 0, [], false⟩]
theorem b_of : ofE bF bV = 0 ∧ ofS bF bV = ⟨[1], [2], false⟩ := by
  obtain ⟨h1, h2⟩ := putsE_ok (fs := bF.take bV.length) (vs := bV) (by decide) rfl (by decide) (by decide)
  obtain ⟨q1, q2⟩ := of_ok (fs := bF) (vs := bV) (by decide) h1
  exact ⟨q1, by rw [q2, h2]; rfl⟩
theorem fds_one {W : World} {g : Nat} {f : Fd} (h : Blk W g #[.int .i64 f.k, .bool f.f]) : Fds W W.heap.size (some ⟨g, 0, none⟩) 1 [f] := by
  refine ⟨rfl, by unfold maxLen; omega, by simp [fcs], fun _ => ⟨_, rfl, h.lt, fun j i c u hj hi => ?_⟩⟩
  have hadd : ∀ m, (⟨g, 0, none⟩ : Addr).add m = ⟨g, m, none⟩ := fun m => by rw [Addr.add_mid, Nat.zero_add]
  rw [hadd, h.cell]
  match j, hj with
  | 0, hj =>
    simp [fcs] at hj
    subst hj
    match i, hi with
    | 0, hi => simpa using hi
    | 1, hi => simpa using hi
theorem vls_one {W : World} {g : Nat} {A1 : Option Addr} {n1 c1 : Nat} {a : Vl} (h : Blk W g #[.int .u64 (a.u : Int), .int .i64 a.i, .slice A1 n1 c1, .bool a.t])
    (ha : Byt W W.heap.size A1 n1 a.l) (hac : n1 ≤ c1) : Vls W W.heap.size (some ⟨g, 0, none⟩) 1 [a] := by
  refine ⟨[[.int .u64 (a.u : Int), .int .i64 a.i, .slice A1 n1 c1, .bool a.t]], ⟨rfl, by unfold maxLen; omega, by simp, fun _ => ⟨_, rfl, h.lt, ?_⟩⟩, ⟨rfl, ?_⟩⟩
  · intro j i c u hj hi
    have hadd : ∀ m, (⟨g, 0, none⟩ : Addr).add m = ⟨g, m, none⟩ := fun m => by rw [Addr.add_mid, Nat.zero_add]
    rw [hadd, h.cell]
    match j, hj with
    | 0, hj =>
      simp at hj
      subst hj
      match i, hi with
      | 0, hi => simpa using hi
      | 1, hi => simpa using hi
      | 2, hi => simpa using hi
      | 3, hi => simpa using hi
  · intro j c v hc hv
    match j, hc, hv with
    | 0, hc, hv => simp at hc hv; subst hc hv; exact ⟨A1, n1, c1, rfl, ha, hac⟩
set_option maxRecDepth 100000 in
theorem bpre_5 (g B : Nat) (s : Sp) (hs : prefS [1, 255] = s) (V : World) (hB : B ≤ V.heap.size) (h : Byt V B (some ⟨g, 0, none⟩) 2 [1, 255]) : Calls Tryd.prog 9 #[.slice (some ⟨g, 0, none⟩) 2 2] V (SpPost V s) := by subst hs; exact prefix_any _ 2 2 B [1, 255] V h hB (by decide)
set_option maxRecDepth 100000 in
theorem bof_5 (g g' : Nat) (s : Sp) (hs : ⟨[1], [2], false⟩ = s) (V : World) (hT : Tab V) (hf : Fds V V.heap.size (some ⟨g, 0, none⟩) 1 bF) (hv : Vls V V.heap.size (some ⟨g', 0, none⟩) 1 bV) : Calls Tryd.prog 21 #[.slice (some ⟨g, 0, none⟩) 1 1, .slice (some ⟨g', 0, none⟩) 1 1] V (SpEPost V s 0) := by
  have q := of_any (some ⟨g, 0, none⟩) (some ⟨g', 0, none⟩) 1 1 1 1 V.heap.size bF bV V hT hf (by decide) hv (Nat.le_refl _) (by intro v hv; simp [bV] at hv; subst hv; exact ⟨⟨by decide, by decide⟩, by decide⟩)
  rw [b_of.1, b_of.2, hs] at q
  exact q
set_option maxRecDepth 100000 in
theorem bhas_5 (A A' A2 : Option Addr) (n c n' c' n2 c2 B : Nat) (s : Sp) (l : List UInt8) (b : Bool) (w : World) (hf : Byt w B A n s.f) (ht : Byt w B A' n' s.t) (hl : Byt w w.heap.size A2 n2 l) (hB : B ≤ w.heap.size) (hb : hasS s l = b) :
    Calls Tryd.prog 11 #[.agg #[.slice A n c, .slice A' n' c', .bool s.o], .slice A2 n2 c2] w fun e w' => e = .returned (.bool b) ∧ Below w.heap.size w w' := by
  subst hb
  exact has_any A A' A2 n c n' c' n2 c2 w.heap.size s.f s.t l s.o w (hf.more hB) (ht.more hB) hl (Nat.le_refl _)

theorem lit_byt (V : World) (e : TypeId) (l : List UInt8) (cs : Array Value) (n : Nat) (hcs : bvs l = cs) (hn : l.length = n) (h0 : 0 < n) (hm : n ≤ 1000) : Byt (V.alloc (.cells cs e)) (V.alloc (.cells cs e)).heap.size (some ⟨V.heap.size, 0, none⟩) n l := by
  subst hcs hn
  exact ((Row.new V e l).byt rfl (show l.length ≤ maxLen by unfold maxLen; omega) (Nat.lt_succ_self V.heap.size)).more (by simp)
theorem lit_drew (V : World) (e : TypeId) (l : List UInt8) (cs : Array Value) (n : Nat) (hcs : bvs l = cs) (hn : l.length = n) (h0 : 0 < n) (hm : n ≤ 1000) : Byt (V.alloc (.cells cs e)).drew (V.alloc (.cells cs e)).drew.heap.size (some ⟨V.heap.size, 0, none⟩) n l := lit_byt V e l cs n hcs hn h0 hm
set_option maxRecDepth 100000 in
theorem bempty_5 (A A' : Option Addr) (n c n' c' B : Nat) (s : Sp) (b : Bool) (w : World) (hf : Byt w B A n s.f) (ht : Byt w B A' n' s.t) (hB : B ≤ w.heap.size) (hb : emptyS s = b) :
    Calls Tryd.prog 14 #[.agg #[.slice A n c, .slice A' n' c', .bool s.o]] w fun e w' => e = .returned (.bool b) ∧ Below w.heap.size w w' := by
  subst hb
  exact empty_any A A' n c n' c' B s.f s.t s.o w hf ht hB
set_option maxRecDepth 100000 in
theorem bsame_5 (A A' D D' : Option Addr) (n c n' c' m d m' d' : Nat) (s u : Sp) (b : Bool) (w : World) (hf : Byt w w.heap.size A n s.f) (ht : Byt w w.heap.size A' n' s.t) (hf2 : Byt w w.heap.size D m u.f) (ht2 : Byt w w.heap.size D' m' u.t) (hb : sameS s u = b) :
    Calls Tryd.prog 16 #[.agg #[.slice A n c, .slice A' n' c', .bool s.o], .agg #[.slice D m d, .slice D' m' d', .bool u.o]] w fun e w' => e = .returned (.bool b) ∧ Below w.heap.size w w' := by
  subst hb
  exact bsame_any A A' D D' n c n' c' m d m' d' w.heap.size s.f s.t u.f u.t s.o u.o w hf ht hf2 ht2 (Nat.le_refl _)
set_option maxRecDepth 100000 in
theorem bmeet_5 (A A' D D' : Option Addr) (n c n' c' m d m' d' B : Nat) (s u : Sp) (w : World) (hf : Byt w B A n s.f) (ht : Byt w B A' n' s.t) (hf2 : Byt w B D m u.f) (ht2 : Byt w B D' m' u.t) (hB : B ≤ w.heap.size) (hn : n ≤ 1099511627776 ∧ n' ≤ 1099511627776 ∧ m ≤ 1099511627776 ∧ m' ≤ 1099511627776) :
    Calls Tryd.prog 18 #[.agg #[.slice A n c, .slice A' n' c', .bool s.o], .agg #[.slice D m d, .slice D' m' d', .bool u.o]] w (SpPost w (meetS s u)) :=
  meet_any A A' D D' n c n' c' m d m' d' B s.f s.t u.f u.t s.o u.o w hf ht hf2 ht2 hB hn
set_option maxRecDepth 100000 in
theorem span_open (A A' : Option Addr) (n c n' c' : Nat) (o : Bool) (W : World) : (Instr.field 28 (.agg #[.slice A n c, .slice A' n' c', .bool o]) 2).run Tryd.prog W = .ok (.bool o) W := by kernel_rfl

set_option maxRecDepth 100000 in
set_option maxHeartbeats 4000000 in
theorem balive_any (w : World) (hT : Tab w) : Calls Tryd.prog 7 #[] w fun e w' => e = .returned (.bool true) ∧ Below w.heap.size w w' := by
  have HT := Lib.hid (fun V (h : Below w.heap.size w V) => hT.below h)
  clear hT
  obtain ⟨s, hs⟩ : ∃ s, prefS [1, 255] = s := ⟨_, rfl⟩
  obtain ⟨u, hu⟩ : ∃ u, (⟨[1], [2], false⟩ : Sp) = u := ⟨_, rfl⟩
  have HS := Lib.hid (And.intro hs hu)
  have HF := Lib.hid (show (hasS s [1, 255, 3] = true ∧ hasS s [2] = false ∧ emptyS s = false ∧ hasS u [1] = true ∧ sameS (meetS s u) s = true) ∧ s.f.length = 2 ∧ s.t.length = 1 ∧ u.f.length = 1 ∧ u.t.length = 1 from by subst hs hu; decide)
  clear hs hu
  generalize hW : w.alloc (.cells #[.int .u8 1, .int .u8 255] 5) = W
  have HB := Lib.hid (show Below w.heap.size w W from by subst hW; exact (Below.refl _ _).alloc (Nat.le_refl _) _)
  have HY := Lib.hid (show Byt W W.heap.size (some ⟨w.heap.size, 0, none⟩) 2 [1, 255] from by subst hW; exact (byt_two w _ 1 255 rfl rfl).more (by simp))
  go_enter Tryd.func7, Tryd.ntmps7
  go_wp2_with fail
  clear hW
  (with_reducible refine (bpre_5 w.heap.size W.heap.size s HS.out.1 W (Nat.le_refl _) HY.out).mono ?_)
  rintro e w1 ⟨A1, n1, c1, A2, n2, c2, rfl, y1, y2, hb1⟩
  have B1 := Lib.hid (HB.out.trans (hb1.mono HB.out.size))
  have Y1 := Lib.hid (And.intro y1 y2)
  clear hb1 y1 y2 HY
  generalize hV : w1.alloc (.cells #[.slice A1 n1 c1, .slice A2 n2 c2, .bool s.o] 28) = V
  have XV := Lib.hid (show Three V w1.heap.size (.slice A1 n1 c1) (.slice A2 n2 c2) (.bool s.o) from by subst hV; exact Three.new _ _ _ _ _)
  have BV := Lib.hid (show Below w.heap.size w V from by subst hV; exact B1.out.alloc B1.out.size _)
  have YV := Lib.hid (show Byt V V.heap.size A1 n1 s.f ∧ Byt V V.heap.size A2 n2 s.t from by subst hV; exact ⟨(Y1.out.1.alloc (Nat.le_refl _) _).more (by simp), (Y1.out.2.alloc (Nat.le_refl _) _).more (by simp)⟩)
  clear Y1
  generalize hX : (V.alloc (.cells #[.int .i64 1, .bool false] 65)).alloc (.cells #[.int .u64 1, .int .i64 0, .slice none 0 0, .bool false] 66) = X
  have BX := Lib.hid (show Below V.heap.size V X from by subst hX; exact ((Below.refl _ _).alloc (Nat.le_refl _) _).alloc (by simp) _)
  have FX := Lib.hid (show Fds X X.heap.size (some ⟨V.heap.size, 0, none⟩) 1 bF from by subst hX; exact fds_one (f := ⟨1, false⟩) ((Blk.new V _ _).alloc _))
  have VX := Lib.hid (show Vls X X.heap.size (some ⟨V.heap.size + 1, 0, none⟩) 1 bV from by
    have hbl : Blk X (V.heap.size + 1) #[.int .u64 1, .int .i64 0, .slice none 0 0, .bool false] := by subst hX; have := Blk.new (V.alloc (.cells #[.int .i64 1, .bool false] 65)) 66 #[.int .u64 1, .int .i64 0, .slice none 0 0, .bool false]; rwa [World.size_alloc] at this
    exact vls_one (a := ⟨1, 0, [], false⟩) hbl Byt.none_ (Nat.le_refl _))
  have BXX := Lib.hid (show Below w.heap.size w X from BV.out.trans (BX.out.mono BV.out.size))
  go_wp2_with fail
  clear hV hX
  (with_reducible refine (bof_5 _ _ u HS.out.2 X (HT.out _ BXX.out) FX.out VX.out).mono ?_)
  rintro e w2 ⟨A3, n3, c3, A4, n4, c4, rfl, y3, y4, hb2⟩
  have B2 := Lib.hid (BXX.out.trans (hb2.mono BXX.out.size))
  have X2 := Lib.hid ((XV.out.below BX.out XV.out.lt).below hb2 (Nat.lt_of_lt_of_le XV.out.lt BX.out.size))
  have Y2 := Lib.hid (And.intro (((YV.out.1.below BX.out).more BX.out.size).below hb2) (((YV.out.2.below BX.out).more BX.out.size).below hb2))
  have S2 := Lib.hid hb2.size
  have Y3 := Lib.hid (And.intro y3 y4)
  clear hb2 y3 y4
  generalize hU : w2.alloc (.cells #[.slice A3 n3 c3, .slice A4 n4 c4, .bool u.o] 28) = U
  have HA := Lib.hid (show ∀ Z, Below U.heap.size U Z → (Three Z w1.heap.size (.slice A1 n1 c1) (.slice A2 n2 c2) (.bool s.o) ∧ Three Z w2.heap.size (.slice A3 n3 c3) (.slice A4 n4 c4) (.bool u.o)) ∧ (Byt Z U.heap.size A1 n1 s.f ∧ Byt Z U.heap.size A2 n2 s.t) ∧ (Byt Z U.heap.size A3 n3 u.f ∧ Byt Z U.heap.size A4 n4 u.t) ∧ Below w.heap.size w Z from fun Z h => by
    have q0 : Three U w1.heap.size (.slice A1 n1 c1) (.slice A2 n2 c2) (.bool s.o) := by subst hU; exact X2.out.alloc _
    have q1 : Three U w2.heap.size (.slice A3 n3 c3) (.slice A4 n4 c4) (.bool u.o) := by subst hU; exact Three.new _ _ _ _ _
    have q2 : Below w.heap.size w U := by subst hU; exact B2.out.alloc B2.out.size _
    have q3 : w2.heap.size ≤ U.heap.size := by subst hU; simp
    have al : ∀ {B A n l}, Byt w2 B A n l → B ≤ w2.heap.size → Byt U U.heap.size A n l := fun {B A n l} k hk => by subst hU; exact (k.alloc hk _).more (by simp; omega)
    exact ⟨⟨q0.below h q0.lt, q1.below h q1.lt⟩, ⟨(al Y2.out.1 S2.out).below h, (al Y2.out.2 S2.out).below h⟩, ⟨(al Y3.out.1 (Nat.le_refl _)).below h, (al Y3.out.2 (Nat.le_refl _)).below h⟩, q2.trans (h.mono q2.size)⟩)
  have hb0 : Below U.heap.size U U := Below.refl _ _
  have x0 := (HA.out _ hb0).1.1.t0
  have x1 := (HA.out _ hb0).1.1.t1
  have x2 := (HA.out _ hb0).1.1.t2
  have y0 := (HA.out _ hb0).1.2.t0
  have y1 := (HA.out _ hb0).1.2.t1
  have y2 := (HA.out _ hb0).1.2.t2
  clear X2 Y2 Y3 S2 XV YV
  go_wp2_with fail
  clear hU
  have KP := Lib.hid (show ∀ w', Below U.heap.size U w' → (w'.cell? ⟨w1.heap.size, 0, none⟩ = some (.slice A1 n1 c1) ∧ w'.cell? ⟨w1.heap.size, 1, none⟩ = some (.slice A2 n2 c2) ∧ w'.cell? ⟨w1.heap.size, 2, none⟩ = some (.bool s.o)) ∧ w'.cell? ⟨w2.heap.size, 0, none⟩ = some (.slice A3 n3 c3) ∧ w'.cell? ⟨w2.heap.size, 1, none⟩ = some (.slice A4 n4 c4) ∧ w'.cell? ⟨w2.heap.size, 2, none⟩ = some (.bool u.o) from fun Z h => ⟨⟨(HA.out _ h).1.1.t0, (HA.out _ h).1.1.t1, (HA.out _ h).1.1.t2⟩, (HA.out _ h).1.2.t0, (HA.out _ h).1.2.t1, (HA.out _ h).1.2.t2⟩)
  have HL := Lib.hid (show n1 ≤ 1099511627776 ∧ n2 ≤ 1099511627776 ∧ n3 ≤ 1099511627776 ∧ n4 ≤ 1099511627776 from by
    obtain ⟨_, l1, l2, l3, l4⟩ := HF.out
    have q := HA.out _ hb0
    have := q.2.1.1.1
    have := q.2.1.2.1
    have := q.2.2.1.1.1
    have := q.2.2.1.2.1
    omega)
  go_region_held3 (fun w' => (w'.cell? ⟨w1.heap.size, 0, none⟩ = some (.slice A1 n1 c1) ∧ w'.cell? ⟨w1.heap.size, 1, none⟩ = some (.slice A2 n2 c2) ∧ w'.cell? ⟨w1.heap.size, 2, none⟩ = some (.bool s.o)) ∧ w'.cell? ⟨w2.heap.size, 0, none⟩ = some (.slice A3 n3 c3) ∧ w'.cell? ⟨w2.heap.size, 1, none⟩ = some (.slice A4 n4 c4) ∧ w'.cell? ⟨w2.heap.size, 2, none⟩ = some (.bool u.o))
    (first
      | exact KP.out _ hb7
      | exact KP.out _ hb6
      | exact KP.out _ hb5
      | exact KP.out _ hb4
      | exact KP.out _ hb3
      | exact KP.out _ hb2
      | exact KP.out _ hb1
      | exact KP.out _ hb0
      | exact KP.out _ (hb4.alloc hb4.size _)
      | exact KP.out _ (hb1.alloc hb1.size _)
      | exact KP.out _ (hb0.alloc hb0.size _)
      | exact KP.out _ hb0.drew
      | exact KP.out _ (hb0.alloc hb0.size _).drew)
    (first
      | (go_at_call 11; (with_reducible refine (bhas_5 A1 A2 (some ⟨U.heap.size, 0, none⟩) n1 c1 n2 c2 3 3 U.heap.size s [1, 255, 3] true (U.alloc (.cells #[.int .u8 1, .int .u8 255, .int .u8 3] 5)).drew (HA.out _ ((hb0.alloc hb0.size _).drew)).2.1.1 (HA.out _ ((hb0.alloc hb0.size _).drew)).2.1.2 (lit_drew U 5 [1, 255, 3] #[.int .u8 1, .int .u8 255, .int .u8 3] 3 rfl rfl (by decide) (by decide)) ((hb0.alloc hb0.size _).drew).size HF.out.1.1).mono ?_); rintro e v1 ⟨rfl, q1⟩; have hb1 : Below U.heap.size U v1 := ((hb0.alloc hb0.size _).drew).trans (q1.mono ((hb0.alloc hb0.size _).drew).size))
      | (go_at_call 11; (with_reducible refine (bhas_5 A1 A2 (some ⟨v1.heap.size, 0, none⟩) n1 c1 n2 c2 1 1 U.heap.size s [2] false (v1.alloc (.cells #[.int .u8 2] 5)) (HA.out _ ((hb1.alloc hb1.size _))).2.1.1 (HA.out _ ((hb1.alloc hb1.size _))).2.1.2 (lit_byt v1 5 [2] #[.int .u8 2] 1 rfl rfl (by decide) (by decide)) ((hb1.alloc hb1.size _)).size HF.out.1.2.1).mono ?_); rintro e v2 ⟨rfl, q2⟩; have hb2 : Below U.heap.size U v2 := ((hb1.alloc hb1.size _)).trans (q2.mono ((hb1.alloc hb1.size _)).size))
      | (go_at_call 20; (with_reducible refine (whole_any v2).mono ?_); rintro e v3 ⟨A5, n5, c5, A6, n6, c6, rfl, _, _, q3⟩; have hb3 : Below U.heap.size U v3 := hb2.trans (q3.mono hb2.size); have hfd := span_open A5 A6 n5 c5 n6 c6 true)
      | (go_at_call 14; (with_reducible refine (bempty_5 A1 A2 n1 c1 n2 c2 U.heap.size s false v3 (HA.out _ hb3).2.1.1 (HA.out _ hb3).2.1.2 hb3.size HF.out.1.2.2.1).mono ?_); rintro e v4 ⟨rfl, q4⟩; have hb4 : Below U.heap.size U v4 := hb3.trans (q4.mono hb3.size))
      | (go_at_call 11; (with_reducible refine (bhas_5 A3 A4 (some ⟨v4.heap.size, 0, none⟩) n3 c3 n4 c4 1 1 U.heap.size u [1] true (v4.alloc (.cells #[.int .u8 1] 5)) (HA.out _ ((hb4.alloc hb4.size _))).2.2.1.1 (HA.out _ ((hb4.alloc hb4.size _))).2.2.1.2 (lit_byt v4 5 [1] #[.int .u8 1] 1 rfl rfl (by decide) (by decide)) ((hb4.alloc hb4.size _)).size HF.out.1.2.2.2.1).mono ?_); rintro e v5 ⟨rfl, q5⟩; have hb5 : Below U.heap.size U v5 := ((hb4.alloc hb4.size _)).trans (q5.mono ((hb4.alloc hb4.size _)).size))
      | (go_at_call 18; (with_reducible refine (bmeet_5 A1 A2 A3 A4 n1 c1 n2 c2 n3 c3 n4 c4 U.heap.size s u v5 (HA.out _ hb5).2.1.1 (HA.out _ hb5).2.1.2 (HA.out _ hb5).2.2.1.1 (HA.out _ hb5).2.2.1.2 hb5.size HL.out).mono ?_); rintro e v6 ⟨A7, n7, c7, A8, n8, c8, rfl, m1, m2, q6⟩; have hb6 : Below U.heap.size U v6 := hb5.trans (q6.mono hb5.size))
      | (go_at_call 16; (with_reducible refine (bsame_5 A7 A8 A1 A2 n7 c7 n8 c8 n1 c1 n2 c2 (meetS s u) s true v6 m1 m2 ((HA.out _ hb6).2.1.1.more hb6.size) ((HA.out _ hb6).2.1.2.more hb6.size) HF.out.1.2.2.2.2).mono ?_); rintro e v7 ⟨rfl, q7⟩; have hb7 : Below U.heap.size U v7 := hb6.trans (q7.mono hb6.size)))
  have BZ := Lib.hid (HA.out _ hb7).2.2.2
  clear hb0 hb1 hb2 hb3 hb4 hb5 hb6 hb7 q1 q2 q3 q4 q5 q6 q7
  go_wp2
  go_ret
  exact ⟨rfl, BZ.out⟩
end Go.Proofs.YtofccfbiappgaaaDoor
