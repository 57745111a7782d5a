/-
  near.after: the key behind a key, by slices.Concat and slices.Grow.
-/
import Derived.Test.YtidiinededalmaaGreatNrWay
namespace Go.Proofs.YtidiinededalmaaGreat
open Go.RowKit

set_option maxRecDepth 100000 in
theorem info_u8i : ∃ i : TypeInfo, Tryz.prog.info? 5 = some i ∧ i.zero = some (.int .u8 0) ∧ i.size = 1 ∧ i.bytes = 1 := by
  obtain ⟨i0, h0, h1, h2, h3⟩ := info_parts info_u8
  exact ⟨i0, h0, h1, h2, h3⟩
/-- slices.Grow of nothing: a row of one's own that is empty, with room. -/
def GrwPost (w : World) (k : Nat) (e : Ending) (w' : World) : Prop :=
  ∃ A c, e = .returned (.slice A 0 c) ∧ Mine w' w.heap.size 5 (.slice A 0 c) 0 [] ∧ k ≤ c ∧ Below w.heap.size w w'
set_option maxRecDepth 100000 in
set_option maxHeartbeats 1000000 in
theorem ngrow_any (k : Nat) (hk : 0 < k) (hk2 : k ≤ 1000000) (w : World) :
    Calls Tryz.prog 67 #[.slice none 0 0, .int .i64 (k : Int)] w (GrwPost w k) := by
  obtain ⟨i0, hi0, hz0, hs0, hb0⟩ := info_u8i
  have h1 : ¬ ((k : Int) < 0) := by omega
  have h4 : (0 : Int) < (k : Int) := by omega
  have h3 : IntKind.i64.wrap (k : Int) = (k : Int) := by rw [IntKind.wrap_i64]; omega
  have hold : (Builtin.firstCells i0.size 0 (.slice none 0 0)).run Tryz.prog w.drew = .ok ([] : List Value).toArray w.drew := run_firstCells_none w.drew i0.size 0 0 0
  have hr := Lib.run_append_grow_zeros w 23 3 23 5 i0 (.int .u8 0) .i64 .i64 Tryz.underlying23 Tryz.underlying3 hi0 hz0 none 0 0 [] hold k hk (by omega) (by omega) (by omega) (by rw [hb0]; omega) (growslice_fits (by omega) (by rw [hb0]; omega))
  rw [Nat.zero_add] at hr
  have hGn : k ≤ grownCap w k 0 5 := grownCap_ge w _ _ _
  have hGm : grownCap w k 0 5 ≤ maxLen := grownCap_le_maxLen w k 0 _ (by unfold maxLen; omega)
  obtain ⟨G, hG⟩ : ∃ G, grownCap w k 0 5 = G := ⟨_, rfl⟩
  rw [hG] at hr hGn hGm
  obtain ⟨cs, hcs⟩ : ∃ cs, (([] : List Value).toArray ++ Builtin.zeroCells (Value.int .u8 0).cells k ++ Builtin.zeroCells (Value.int .u8 0).cells (G - k)) = cs := ⟨_, rfl⟩
  have hsz : cs.size = G := by rw [← hcs]; simp [size_zeroCells, Value.cells]; omega
  rw [hcs] at hr
  have HM := Lib.hid (show Mine (w.drew.alloc (.cells cs 5)) w.heap.size 5 (.slice (some ⟨w.heap.size, 0, none⟩) 0 G) 0 [] from World.ownsRow_made w.drew _ G (Nat.le_refl _) hGm (by simpa using hsz))
  have HB := Lib.hid (show Below w.heap.size w (w.drew.alloc (.cells cs 5)) from ((Below.refl _ w).drew).alloc (Nat.le_refl _) _)
  have HG := Lib.hid hGn
  clear hold hGn hGm hcs hsz hG
  go_enter Tryz.func67, Tryz.ntmps67
  go_wp2_with (at_builtin; refine Lib.wpList_append_run _ rfl _ _ _ _ rfl _ _ rfl rfl _ _ hr ?_)
  all_goals (go_ret; exact ⟨_, _, rfl, HM.out, HG.out, HB.out⟩)
/-- What after leaves. -/
def AftPost (w : World) (n : Nat) (l : List UInt8) (e : Ending) (w' : World) : Prop :=
  ∃ A c, e = .returned (.slice A n c) ∧ Byt w' w'.heap.size A n l ∧ n ≤ c ∧ Below w.heap.size w w'
/-- The first ones of two lists of bytes, one behind the other; how many bytes they are. -/
def catK (l m : List UInt8) (k : Nat) : List UInt8 := if k = 0 then [] else if k = 1 then l else l ++ m
set_option maxRecDepth 100000 in
set_option maxHeartbeats 2000000 in
theorem nconcat_any (A A1 : Option Addr) (n c n1 c1 B g cc : Nat) (l m : List UInt8) (w : World) (hB : B ≤ w.heap.size) (h1 : Byt w B A n l) (h2 : Byt w B A1 n1 m) (hn1 : 0 < n1) (hn : n + n1 ≤ 1000000) (hg : g < w.heap.size) (hc0 : w.cell? ⟨g, 0, none⟩ = some (.slice A n c)) (hc1 : w.cell? ⟨g, 1, none⟩ = some (.slice A1 n1 c1)) :
    Calls Tryz.prog 49 #[.slice (some ⟨g, 0, none⟩) 2 cc] w (AftPost w (n + n1) (l ++ m)) := by
  have HC := Lib.hid (fun (V : World) (hV : Below w.heap.size w V) => show V.cell? ⟨g, 0, none⟩ = some (.slice A n c) ∧ V.cell? ⟨g, 1, none⟩ = some (.slice A1 n1 c1) from ⟨(hV.cell (p := ⟨g, 0, none⟩) hg).trans hc0, (hV.cell (p := ⟨g, 1, none⟩) hg).trans hc1⟩)
  have HY := Lib.hid (fun (V : World) (hV : Below w.heap.size w V) => show Byt V w.heap.size A n l ∧ Byt V w.heap.size A1 n1 m from ⟨(h1.more hB).below hV, (h2.more hB).below hV⟩)
  have HN := Lib.hid (And.intro hn (And.intro h1.1 h2.1))
  have HG := Lib.hid (fun (V : World) => ngrow_any (n + n1) (by omega) hn V)
  clear hB h1 h2 hg
  have ew1 : IntKind.i64.wrap (0 + (n : Int)) = (n : Int) := by rw [IntKind.wrap_i64]; omega
  have ew2 : IntKind.i64.wrap ((n : Int) + (n1 : Int)) = ((n + n1 : Nat) : Int) := by rw [IntKind.wrap_i64]; omega
  have EW2 := Lib.hid ew2
  obtain ⟨s2, hs2⟩ : ∃ z, n + n1 = z := ⟨_, rfl⟩
  rw [hs2] at HG HN ew2 hn
  have HS2 := Lib.hid hs2
  have hnn : n ≤ 1000000 := by omega
  have hnn1 : n1 ≤ 1000000 := by omega
  clear hs2
  go_enter Tryz.func49, Tryz.ntmps49
  go_wp2
  go_loopw [3, 11] (fun s i wr => ∃ (k : Nat) (z : Int), i = .int .i64 (k : Int) ∧ s = .int .i64 z ∧ ((k = 0 ∧ z = 0) ∨ (k = 1 ∧ z = (n : Int)) ∨ (k = 2 ∧ z = (s2 : Int))) ∧ Hid (Below w.heap.size w wr)) (fun _ i _ => 2 - (intOf i).toNat)
  case atStart => exact ⟨0, 0, rfl, rfl, .inl ⟨rfl, rfl⟩, Lib.hid (Below.refl _ _)⟩
  case round =>
    obtain ⟨k, z, rfl, rfl, hk, HB⟩ := hrel
    obtain ⟨q0, q1⟩ := HC.out wr HB.out
    rcases hk with ⟨rfl, rfl⟩ | ⟨rfl, rfl⟩ | ⟨rfl, rfl⟩
    · go_wp2
      exact ⟨⟨1, (n : Int), rfl, rfl, .inr (.inl ⟨rfl, rfl⟩), HB⟩, by simp [intOf]⟩
    · go_wp2
      exact ⟨⟨2, (s2 : Int), rfl, rfl, .inr (.inr ⟨rfl, rfl⟩), HB⟩, by simp [intOf]⟩
    · have H1 := Lib.hid (HG.out wr)
      clear q0 q1
      go_wp2_with fail
      (with_reducible refine H1.out.mono ?_)
      rintro e w1 ⟨A2, c2, rfl, m2, hc2, b2⟩
      have M2 := Lib.hid m2
      have B2 := Lib.hid (HB.out.trans (b2.mono HB.out.size))
      have SZ := Lib.hid (And.intro HB.out.size (And.intro hc2 b2.size))
      obtain ⟨bz, hbz⟩ : ∃ z, wr.heap.size = z := ⟨_, rfl⟩
      rw [hbz] at M2 SZ
      have B2 := B2
      clear m2 b2 hc2 H1 hbz HB
      go_wp2
      go_loopw [6, 27] (fun v i V => ∃ (k : Nat) (A' : Option Addr) (t c' : Nat) (u : List UInt8), i = .int .i64 (k : Int) ∧ v = .slice A' t c' ∧ ((k = 0 ∧ t = 0 ∧ u = []) ∨ (k = 1 ∧ n = t ∧ l = u) ∨ (k = 2 ∧ s2 = t ∧ l ++ m = u)) ∧ Hid (Mine V bz 5 (.slice A' t c') t u ∧ Below w.heap.size w V ∧ bz ≤ V.heap.size)) (fun _ i _ => 2 - (intOf i).toNat)
      case atStart => exact ⟨0, A2, 0, c2, [], rfl, rfl, .inl ⟨rfl, rfl, rfl⟩, Lib.hid ⟨M2.out, B2.out, SZ.out.2.2⟩⟩
      case round =>
        obtain ⟨k, A', t, c', u, rfl, rfl, hk, HM⟩ := hrel
        obtain ⟨q0, q1⟩ := HC.out wr HM.out.2.1
        obtain ⟨y0, y1⟩ := HY.out wr HM.out.2.1
        have Y0 := Lib.hid y0
        have Y1 := Lib.hid y1
        clear y0 y1
        rcases hk with ⟨rfl, rfl, rfl⟩ | ⟨rfl, rfl, rfl⟩ | ⟨rfl, rfl, rfl⟩
        · go_wp2_with (at_builtin
                       refine wpList_append_byt _ rfl (.tmp 31) (.tmp 32) _ rfl Tryz.underlying23 info_u8 bz (.slice A' 0 c') 0 [] rfl HM.out.1 w.heap.size A n c l rfl Y0.out (by omega) HM.out.2.2 ?_
                       intro v2 w2 hm2 hg2 _
                       rw [Nat.zero_add, List.nil_append] at hm2
                       obtain ⟨A3, c3, rfl⟩ := hm2.slice
                       have HM2 := Lib.hid hm2
                       have C2 := Lib.hid (And.intro (HM.out.2.1.grown hg2 HM.out.2.1.size (fun i q => Nat.le_trans SZ.out.1 (HM.out.1.lt i q).1)) (Nat.le_trans HM.out.2.2 hg2.size))
                       clear hm2 hg2)
          exact ⟨⟨1, A3, n, c3, l, rfl, rfl, .inr (.inl ⟨rfl, rfl, rfl⟩), Lib.hid ⟨HM2.out, C2.out⟩⟩, by simp [intOf]⟩
        · go_wp2_with (at_builtin
                       refine wpList_append_byt _ rfl (.tmp 31) (.tmp 32) _ rfl Tryz.underlying23 info_u8 bz (.slice A' n c') n l rfl HM.out.1 w.heap.size A1 n1 c1 m rfl Y1.out (by omega) HM.out.2.2 ?_
                       intro v2 w2 hm2 hg2 _
                       rw [HS2.out] at hm2
                       obtain ⟨A3, c3, rfl⟩ := hm2.slice
                       have HM2 := Lib.hid hm2
                       have C2 := Lib.hid (And.intro (HM.out.2.1.grown hg2 HM.out.2.1.size (fun i q => Nat.le_trans SZ.out.1 (HM.out.1.lt i q).1)) (Nat.le_trans HM.out.2.2 hg2.size))
                       clear hm2 hg2)
          exact ⟨⟨2, A3, s2, c3, (l ++ m), rfl, rfl, .inr (.inr ⟨rfl, rfl, rfl⟩), Lib.hid ⟨HM2.out, C2.out⟩⟩, by simp [intOf]⟩
        · obtain rfl := HS2.out
          go_wp2
          go_ret
          exact ⟨A', c', rfl, HM.out.1.byt, HM.out.1.room, HM.out.2.1⟩
set_option maxRecDepth 100000 in
/-- The very next key behind a key. -/
theorem nafter_any (A : Option Addr) (n c : Nat) (l : List UInt8) (w : World) (h1 : Byt w w.heap.size A n l) (hn : n ≤ 60000) :
    Calls Tryz.prog 30 #[.slice A n c] w (AftPost w (n + 1) (l ++ [0])) := by
  obtain ⟨W1, hW1⟩ : ∃ V, w.alloc (.cells #[.int .u8 0] 5) = V := ⟨_, rfl⟩
  obtain ⟨W2, hW2⟩ : ∃ V, W1.alloc (.cells #[.slice A n c, .slice (some ⟨w.heap.size, 0, none⟩) 1 1] 23) = V := ⟨_, rfl⟩
  have s1 : W1.heap.size = w.heap.size + 1 := by rw [← hW1]; simp
  have b1 : Below w.heap.size w W1 := by rw [← hW1]; exact (Below.refl _ _).alloc (Nat.le_refl _) _
  have y1 : Byt W1 (w.heap.size + 1) (some ⟨w.heap.size, 0, none⟩) 1 [0] := by rw [← hW1]; exact byt_one w 5 (u := 0) rfl
  have b2 : Below W1.heap.size W1 W2 := by rw [← hW2]; exact (Below.refl _ _).alloc (Nat.le_refl _) _
  have k2 : Blk W2 W1.heap.size #[.slice A n c, .slice (some ⟨w.heap.size, 0, none⟩) 1 1] := by rw [← hW2]; exact Blk.new W1 _ _
  have bw : Below w.heap.size w W2 := b1.trans (b2.mono (by omega))
  have H := nconcat_any A (some ⟨w.heap.size, 0, none⟩) n c 1 1 W1.heap.size W1.heap.size 2 l [0] W2 b2.size ((h1.below (b1.trans (b2.mono (by omega)))).more (by omega)) ((y1.more (by omega)).below b2) (by omega) (by omega) k2.lt (k2.cell 0) (k2.cell 1)
  rw [s1] at H
  have H := Lib.hid H
  have HW1 := Lib.hid hW1
  have HW2 := Lib.hid hW2
  have BW := Lib.hid bw
  clear s1 b1 y1 b2 k2 bw h1 hW1 hW2
  go_enter Tryz.func30, Tryz.ntmps30
  go_wp2_with fail
  rw [HW1.out, HW2.out]
  (with_reducible refine H.out.mono ?_)
  rintro e w3 ⟨A3, c3, rfl, y3, nc3, b3⟩
  have FIN := Lib.hid (show Byt w3 w3.heap.size A3 (n + 1) (l ++ [0]) ∧ n + 1 ≤ c3 ∧ Below w.heap.size w w3 from ⟨y3, nc3, BW.out.trans (b3.mono BW.out.size)⟩)
  clear y3 nc3 b3 H
  go_wp2_with fail
  go_ret
  exact ⟨A3, c3, rfl, FIN.out⟩
end Go.Proofs.YtidiinededalmaaGreat
