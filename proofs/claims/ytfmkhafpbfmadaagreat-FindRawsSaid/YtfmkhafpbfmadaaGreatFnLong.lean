/-
  find.Longest.
-/
import Derived.Test.YtfmkhafpbfmadaaGreatFnGet
import Derived.Test.YtfmkhafpbfmadaaGreatNdMem
import Derived.Laws.ResultCell
import Derived.Deep.RegionHeld3
import Derived.Deep.RegionWith
namespace Go.Proofs.YtfmkhafpbfmadaaGreat
open Go.RowKit

set_option maxRecDepth 100000 in
theorem pair_info : (Tryz.prog.info? 34).map (·.size) = some 2 := by kernel_rfl
set_option maxRecDepth 100000 in
theorem pair_load {W : World} {g : Nat} {a b : Value} (h : Blk W g #[a, b]) : (loadVar 34 ⟨g, 0, none⟩).run Tryz.prog W = .ok (.agg #[a, b]) W := by
  refine run_loadVar_mid W g 0 34 [a, b] _ (fun j v hv => ?_) Tryz.underlying34 rfl pair_info
  rw [Nat.zero_add]
  match j, hv with
  | 0, hv => simp at hv; subst hv; exact h.cell 0
  | 1, hv => simp at hv; subst hv; exact h.cell 1
/-- A function's end whose results are a struct of two cells in a block and one more. -/
theorem close2e {P : Program} {fn : Func} {p u : Tmp} {ty : TypeId} {Q : Ending → World → Prop} {a : Act} {Z : World} {g : Nat} {x y e : Value} (hr : fn.results = #[.cell p ty, .tmp u]) (hp : a.tmps.getD p undef = .pointer (some ⟨g, 0, none⟩)) (hu' : a.tmps.getD u undef = e) (hd : a.defers = [])
    (q : (loadVar ty ⟨g, 0, none⟩).run P Z = .ok (.agg #[x, y]) Z) (h : Q (.returned (.tuple #[.agg #[x, y], e])) Z) : bodyPost P fn Q .ret a Z :=
  bodyPost_ret (v := .tuple #[.agg #[x, y], e]) (by rw [results_cell_tmp hr, hp, hu']; simp [asAddr, Result.andThen, q]) hd h
/-- What Longest has heard: a pair's block, and three boxes behind it. -/
def lonJ (b : Nat) (l : List (Nat × Int)) (V : World) : Prop :=
  Blk V b #[.slice none 0 0, .int .u64 0] ∧ Blk V (b + 1) #[.int .i64 ((lastF l).1 : Int)] ∧ Blk V (b + 2) #[.int .u64 (lastF l).2.1] ∧ Blk V (b + 3) #[.bool (lastF l).2.2]
theorem lonJ.kept {b : Nat} {l : List (Nat × Int)} {V V' : World} (h : lonJ b l V) (hb : Below V.heap.size V V') : lonJ b l V' :=
  ⟨h.1.below hb h.1.lt, h.2.1.below hb h.2.1.lt, h.2.2.1.below hb h.2.2.1.lt, h.2.2.2.below hb h.2.2.2.lt⟩
set_option maxRecDepth 100000 in
theorem flong1_any {b : Nat} {l : List (Nat × Int)} {V : World} (h : lonJ b l V) (a : Nat) (v : Int) :
    Calls Tryz.prog 32 #[.int .i64 (a : Int), .int .u64 v, .pointer (some ⟨b + 1, 0, none⟩), .pointer (some ⟨b + 2, 0, none⟩), .pointer (some ⟨b + 3, 0, none⟩)] V fun e V' => e = .returned (.tuple #[]) ∧ lonJ b (l ++ [(a, v)]) V' ∧ Below b V V' := by
  have HV := Lib.hid h
  obtain ⟨h1, h2, h3, h4⟩ := h
  obtain ⟨g1, hg1⟩ : ∃ x : Int, ((lastF l).1 : Int) = x := ⟨_, rfl⟩
  obtain ⟨g2, hg2⟩ : ∃ x, (lastF l).2.1 = x := ⟨_, rfl⟩
  obtain ⟨g3, hg3⟩ : ∃ x, (lastF l).2.2 = x := ⟨_, rfl⟩
  rw [hg1] at h2
  rw [hg2] at h3
  rw [hg3] at h4
  have c2 := h2.cell 0
  have c3 := h3.cell 0
  have c4 := h4.cell 0
  have z2 := h2.fz 0
  have z3 := h3.fz 0
  have z4 := h4.fz 0
  clear h1 h2 h3 h4 hg1 hg2 hg3
  have n1 : (⟨b + 1, 0, none⟩ : Addr) ≠ ⟨b + 2, 0, none⟩ := fun e => by injection e with e; omega
  have n2 : (⟨b + 1, 0, none⟩ : Addr) ≠ ⟨b + 3, 0, none⟩ := fun e => by injection e with e; omega
  have n3 : (⟨b + 2, 0, none⟩ : Addr) ≠ ⟨b + 3, 0, none⟩ := fun e => by injection e with e; omega
  go_enter Tryz.func32, Tryz.ntmps32
  go_wp2
  go_end0
  obtain ⟨q1, q2, q3, q4⟩ := HV.out
  have k1 : Kept (· = b + 1) V _ := Kept.set_ V ⟨b + 1, 0, none⟩ (.int .i64 (a : Int)) rfl
  have p2 := q2.set_ 0 (.int .i64 (a : Int))
  have p1 := k1.blk q1 (fun e => by omega)
  have p3 := k1.blk q3 (fun e => by omega)
  have p4 := k1.blk q4 (fun e => by omega)
  have k2 : Kept (· = b + 2) _ _ := Kept.set_ (V.setCell ⟨b + 1, 0, none⟩ (.int .i64 (a : Int))) ⟨b + 2, 0, none⟩ (.int .u64 v) rfl
  have r3 := p3.set_ 0 (.int .u64 v)
  have r1 := k2.blk p1 (fun e => by omega)
  have r2 := k2.blk p2 (fun e => by omega)
  have r4 := k2.blk p4 (fun e => by omega)
  have k3 : Kept (· = b + 3) _ _ := Kept.set_ ((V.setCell ⟨b + 1, 0, none⟩ (.int .i64 (a : Int))).setCell ⟨b + 2, 0, none⟩ (.int .u64 v)) ⟨b + 3, 0, none⟩ (.bool true) rfl
  have s4 := r4.set_ 0 (.bool true)
  have s1 := k3.blk r1 (fun e => by omega)
  have s2 := k3.blk r2 (fun e => by omega)
  have s3 := k3.blk r3 (fun e => by omega)
  refine ⟨rfl, ?_, ((k1.below (by have := q1.lt; omega) (fun i e => by omega)).trans (k2.below (by have := p1.lt; omega) (fun i e => by omega))).trans (k3.below (by have := r1.lt; omega) (fun i e => by omega))⟩
  unfold lonJ
  rw [lastF_snoc]
  exact ⟨s1, by simpa using s2, by simpa using s3, by simpa using s4⟩
/-- What Longest leaves. -/
def LonPost (w : World) (key : List UInt8) (r : Nat × Int × Bool) (e : Ending) (w' : World) : Prop :=
  ∃ A' c', e = .returned (.tuple #[.agg #[.slice A' r.1 c', .int .u64 r.2.1], .bool r.2.2]) ∧ Byt w' w'.heap.size A' r.1 (key.take r.1) ∧ Below w.heap.size w w'
theorem two_set {W : World} {g : Nat} {a b : Value} (h : Blk W g #[a, b]) (x y : Value) : Blk ((W.setCell ⟨g, 0, none⟩ x).setCell ⟨g, 1, none⟩ y) g #[x, y] ∧ Kept (· = g) W ((W.setCell ⟨g, 0, none⟩ x).setCell ⟨g, 1, none⟩ y) := by
  have h1 := h.set_ 0 x
  have h2 := h1.set_ 1 y
  exact ⟨by simpa using h2, (show Kept (· = g) W _ from Kept.set_ W ⟨g, 0, none⟩ x rfl).trans (show Kept (· = g) _ _ from Kept.set_ _ ⟨g, 1, none⟩ y rfl)⟩
set_option maxRecDepth 100000 in
set_option maxHeartbeats 2000000 in
theorem flong_any (t : Option (Nn × Fo)) (p A : Option Addr) (n c : Nat) (key : List UInt8) (w : World) (ht : OTre w (· < w.heap.size) t p) (hk : Byt w w.heap.size A n key) (hnc : n ≤ c) (hn : n ≤ 1000000) :
    Calls Tryz.prog 13 #[.pointer p, .slice A n c] w (LonPost w key (lastF ((ogo t key 0).filterMap id))) := by
  obtain ⟨W, hW⟩ : ∃ W, (((w.alloc (.cells #[.slice none 0 0, .int .u64 0] 34)).alloc (.cells #[.int .i64 0] 3)).alloc (.cells #[.int .u64 0] 29)).alloc (.cells #[.bool false] 4) = W := ⟨_, rfl⟩
  have hb : Below w.heap.size w W := by rw [← hW]; exact ((((Below.refl _ _).alloc (Nat.le_refl _) _).alloc (by simp) _).alloc (by simp; omega) _).alloc (by simp; omega) _
  have hj : lonJ w.heap.size [] W := by
    rw [← hW]
    refine ⟨(((Blk.new w _ _).alloc _).alloc _).alloc _, ?_, ?_, ?_⟩
    · have := Blk.new (w.alloc (.cells #[.slice none 0 0, .int .u64 0] 34)) 3 #[.int .i64 0]
      rw [World.size_alloc] at this
      exact (this.alloc _).alloc _
    · have := Blk.new ((w.alloc (.cells #[.slice none 0 0, .int .u64 0] 34)).alloc (.cells #[.int .i64 0] 3)) 29 #[.int .u64 0]
      simp only [World.size_alloc] at this
      exact this.alloc _
    · have := Blk.new (((w.alloc (.cells #[.slice none 0 0, .int .u64 0] 34)).alloc (.cells #[.int .i64 0] 3)).alloc (.cells #[.int .u64 0] 29)) 4 #[.bool false]
      simp only [World.size_alloc] at this
      exact this
  have hsz : W.heap.size = w.heap.size + 4 := by rw [← hW]; simp
  have hears : Hears w.heap.size W 32 #[.pointer (some ⟨w.heap.size + 1, 0, none⟩), .pointer (some ⟨w.heap.size + 2, 0, none⟩), .pointer (some ⟨w.heap.size + 3, 0, none⟩)] (ogo t key 0) (lonJ w.heap.size) :=
    ⟨fun xs V => Tryz.call32 xs V, fun l V V' h _ hV => h.kept hV, fun pre post a v V _ h _ _ => by
      rw [List.filterMap_append]
      exact flong1_any h a v⟩
  have hlook := flook_any w.heap.size _ _ t p A n c key (lonJ w.heap.size) W (by omega) (otre_on ht hb) (hk.below hb) hnc hn hears hj
  have hle := ogo_le t key 0
  obtain ⟨L, hL⟩ : ∃ L, (ogo t key 0).filterMap id = L := ⟨_, rfl⟩
  rw [hL] at hlook hle ⊢
  have hle2 := lastF_le hle
  have hlen : key.length = n := hk.1
  rw [Nat.zero_add, hlen] at hle2
  have HL := Lib.hid hlook
  have HW := Lib.hid hW
  have HB := Lib.hid hb
  have HKY := Lib.hid (fun V (hV : Below w.heap.size w V) => hk.below hV)
  have hs : (lastF L).2.2 = false → lastF L = (0, 0, false) := fun h => by
    rcases lastF_cases L with ⟨_, e⟩ | ⟨M, q, _, e2⟩
    · exact e
    · rw [e2] at h; cases h
  clear hears hj hb ht hk hW hlook hL hle
  obtain ⟨r, hr⟩ : ∃ r, lastF L = r := ⟨_, rfl⟩
  obtain ⟨s, v, h⟩ := r
  unfold lonJ at HL
  rw [hr] at HL hs hle2 ⊢
  dsimp only at HL hs hle2
  have HS := Lib.hid hs
  have HLE := Lib.hid (And.intro hle2 hlen)
  have HN := Lib.hid (And.intro hnc hn)
  clear hs hr hlen hnc hn
  go_enter Tryz.func13, Tryz.ntmps13
  go_wp2_with fail
  rw [HW.out]
  (with_reducible refine HL.out.mono ?_)
  rintro e w1 ⟨rfl, ⟨j1, j2, j3, j4⟩, b1⟩
  have c1 := j1.cell 0
  have c1' := j1.cell 1
  have z1 := j1.fz 0
  have z1' := j1.fz 1
  have c2 := j2.cell 0
  have c3 := j3.cell 0
  have c4 := j4.cell 0
  have J1 := Lib.hid j1
  have B1 := Lib.hid (HB.out.trans b1)
  have q1 := j1.lt
  have J2 := Lib.hid (And.intro j2 j3)
  clear j1 j2 j3 j4 b1 HL
  cases h with
  | false =>
    have e3 := HS.out rfl
    injection e3 with e3 e4
    injection e4 with e4 _
    subst e3 e4
    go_wp2_with fail
    obtain ⟨t1, t2⟩ := two_set J1.out (.slice none 0 0) (.int .u64 0)
    exact close2e rfl rfl rfl rfl (pair_load t1) ⟨none, 0, rfl, Byt.none_, B1.out.trans (t2.below (Nat.le_of_lt q1) (fun i e => by omega))⟩
  | true =>
    have hsl := fun V => slc_upto (P := Tryz.prog) Tryz.underlying23 size_u8 A n c s (by have := HN.out.1; omega) V
    have hlt : (key.take s).length = s := by rw [List.length_take]; have := HLE.out; omega
    have HLT := Lib.hid hlt
    have CL := Lib.hid (fun V (hV : Below w1.heap.size w1 V) => show Calls Tryz.prog 33 #[.slice A s c] V fun e w' => ∃ A2 c2, e = .returned (.slice A2 s c2) ∧ Byt w' w'.heap.size A2 (key.take s).length (key.take s) ∧ (∀ i, Pb A2 (key.take s) i → V.heap.size ≤ i) ∧ Below V.heap.size V w' from
      (bclone_any A s c w.heap.size (key.take s) V ((HKY.out V (B1.out.trans (hV.mono B1.out.size))).take hle2) (Nat.le_trans B1.out.size hV.size) (by have := HN.out.2; omega)).mono fun e w' ⟨A2, c2, h1, h2, h3, h4⟩ => ⟨A2, c2, by rw [h1, hlt], h2, h3, h4⟩)
    clear hlt
    have KP := Lib.hid (fun V (hV : Below w1.heap.size w1 V) => show V.cell? ⟨w.heap.size + 1, 0, none⟩ = some (.int .i64 (s : Int)) ∧ V.cell? ⟨w.heap.size + 2, 0, none⟩ = some (.int .u64 v) ∧ V.cell? ⟨w.heap.size, 0, none⟩ = some (.slice none 0 0) ∧ V.cell? ⟨w.heap.size, 1, none⟩ = some (.int .u64 0) ∧ V.frozen? ⟨w.heap.size, 0, none⟩ = false ∧ V.frozen? ⟨w.heap.size, 1, none⟩ = false from
      ⟨(J2.out.1.below hV J2.out.1.lt).cell 0, (J2.out.2.below hV J2.out.2.lt).cell 0, (J1.out.below hV J1.out.lt).cell 0, (J1.out.below hV J1.out.lt).cell 1, (J1.out.below hV J1.out.lt).fz 0, (J1.out.below hV J1.out.lt).fz 1⟩)
    have HQ := Lib.hid q1
    clear c1 c1' z1 z1' q1
    go_upto_region 5 with fail
    go_region_with (go_at_call 33; (with_reducible refine (CL.out w1.drew (Below.refl w1.heap.size w1).drew).mono ?_); rintro e v1 ⟨A2, c2', rfl, y2, y3, q2⟩; have HB1 := Lib.hid (show Below w1.heap.size w1 v1 from (Below.refl w1.heap.size w1).drew.trans q2); have hq3 := (KP.out _ HB1.out).2.1; have hq0 := (KP.out _ HB1.out).2.2.1; have hq1 := (KP.out _ HB1.out).2.2.2.1; have hz0 := (KP.out _ HB1.out).2.2.2.2.1; have hz1 := (KP.out _ HB1.out).2.2.2.2.2; have HY2 := Lib.hid y2; have HY3 := Lib.hid (show ∀ i, Pb A2 (key.take s) i → w1.heap.size ≤ i from y3); clear y2 y3 q2)
    all_goals (
      go_wp2_with fail
      obtain ⟨t1, t2⟩ := two_set (J1.out.below HB1.out J1.out.lt) (.slice A2 s c2') (.int .u64 v)
      have y4 := (HY2.out.keepPb (fun p hp => t2.cell (HY2.out.ltPb hp) (fun e => by have := HY3.out _ hp; have := HQ.out; omega))).more t2.size
      rw [HLT.out] at y4
      exact close2e rfl rfl rfl rfl (pair_load t1) ⟨A2, c2', rfl, y4, (B1.out.trans (HB1.out.mono B1.out.size)).trans (t2.below (Nat.le_trans (Nat.le_of_lt HQ.out) HB1.out.size) (fun i e => by omega))⟩)
end Go.Proofs.YtfmkhafpbfmadaaGreat
