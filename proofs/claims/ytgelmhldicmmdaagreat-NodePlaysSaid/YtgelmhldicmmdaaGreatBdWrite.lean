/-
  Package wide: New; a place that is free; Set, Drop, and nobody's.
-/
import Derived.Test.YtgelmhldicmmdaaGreatBdNext
import Derived.Test.YtgelmhldicmmdaaGreatDocSet
namespace Go.Proofs.YtgelmhldicmmdaaGreat
open Go.RowKit

section
variable (w : World)
set_option maxRecDepth 100000 in
theorem wset_nil (b : Int) (x : Th) : Calls Tryz.prog 121 #[.pointer none, .int .u8 b, .pointer x] w fun e w' => e = .returned (.int .i64 2) ∧ w' = w := by
  go_enter Tryz.func121, Tryz.ntmps121
  go_wp2_with (go_at_call 77; refine (wnobodys_nil _).mono ?_; rintro e w' ⟨rfl, rfl⟩)
  go_ret
  exact ⟨rfl, rfl⟩
set_option maxRecDepth 100000 in
theorem wdrop_nil (b : Int) : Calls Tryz.prog 115 #[.pointer none, .int .u8 b] w fun e w' => e = .returned (.int .i64 2) ∧ w' = w := by
  go_enter Tryz.func115, Tryz.ntmps115
  go_wp2_with (go_at_call 77; refine (wnobodys_nil _).mono ?_; rintro e w' ⟨rfl, rfl⟩)
  go_ret
  exact ⟨rfl, rfl⟩
set_option maxRecDepth 100000 in
theorem wcopy_nil : Calls Tryz.prog 68 #[.pointer none] w fun e w' => e = .returned (.pointer none) ∧ w' = w := by
  go_enter Tryz.func68, Tryz.ntmps68
  go_wp2_with (go_at_call 77; refine (wnobodys_nil _).mono ?_; rintro e w' ⟨rfl, rfl⟩)
  go_ret
  exact ⟨rfl, rfl⟩
end
section
variable {w : World} {g u : Nat} {es : List Ent} {v : Value}
set_option maxRecDepth 100000 in
/-- One that New did not give. -/
theorem wset_zero (h : Bd w g v 0 es u) (b : Int) (x : Th) : Calls Tryz.prog 121 #[.pointer (some ⟨g, 0, none⟩), .int .u8 b, .pointer x] w fun e w' => e = .returned (.int .i64 2) ∧ w' = w := by
  have C := Lib.hid (wnobodys_any h)
  clear h
  go_enter Tryz.func121, Tryz.ntmps121
  go_wp2_with fail
  (with_reducible refine C.out.mono ?_)
  rintro e w' ⟨rfl, rfl⟩
  go_wp2
  go_ret
  exact ⟨rfl, rfl⟩
set_option maxRecDepth 100000 in
theorem wdrop_zero (h : Bd w g v 0 es u) (b : Int) : Calls Tryz.prog 115 #[.pointer (some ⟨g, 0, none⟩), .int .u8 b] w fun e w' => e = .returned (.int .i64 2) ∧ w' = w := by
  have C := Lib.hid (wnobodys_any h)
  clear h
  go_enter Tryz.func115, Tryz.ntmps115
  go_wp2_with fail
  (with_reducible refine C.out.mono ?_)
  rintro e w' ⟨rfl, rfl⟩
  go_wp2
  go_ret
  exact ⟨rfl, rfl⟩
set_option maxRecDepth 100000 in
theorem wcopy_zero (h : Bd w g v 0 es u) : Calls Tryz.prog 68 #[.pointer (some ⟨g, 0, none⟩)] w fun e w' => e = .returned (.pointer none) ∧ w' = w := by
  have C := Lib.hid (wnobodys_any h)
  clear h
  go_enter Tryz.func68, Tryz.ntmps68
  go_wp2_with fail
  (with_reducible refine C.out.mono ?_)
  rintro e w' ⟨rfl, rfl⟩
  go_wp2
  go_ret
  exact ⟨rfl, rfl⟩
end

set_option maxRecDepth 100000 in
theorem bd_built0 : Tryz.prog.built 126 [] = some (bdL 0 (fun _ => 0) (.slice none 0 0) (fun _ => 0) 0).toArray := by kernel_rfl
set_option maxRecDepth 100000 in
theorem bd_built1 (room : Nat) : Tryz.prog.built 126 [(0, .int .i64 (room : Int))] = some (bdL room (fun _ => 0) (.slice none 0 0) (fun _ => 0) 0).toArray := by kernel_rfl
set_option maxRecDepth 100000 in
theorem bd_size : (Tryz.prog.info? 126).map (·.size) = some 515 := by kernel_rfl
set_option maxRecDepth 100000 in
theorem num_info : (Tryz.prog.info? 46).map (fun i => (i.zero, i.size, i.bytes)) = some (some (.pointer none), 1, 8) := by kernel_rfl

set_option maxRecDepth 100000 in
theorem wnew_no (w : World) (room : Int) (h1 : room ≠ 48) (h2 : room ≠ 256) : Calls Tryz.prog 74 #[.int .i64 room] w fun e w' => e = .returned (.tuple #[.pointer none, .int .i64 1]) ∧ w' = w := by
  have q1 : (room != 48) = true := by simpa using h1
  have q2 : (room != 256) = true := by simpa using h2
  go_enter Tryz.func74, Tryz.ntmps74
  go_wp2
  go_ret2
  exact ⟨rfl, rfl⟩
set_option maxRecDepth 100000 in
theorem wnew_yes (w : World) (room : Nat) (h : room = 48 ∨ room = 256) : Calls Tryz.prog 74 #[.int .i64 (room : Int)] w fun e w' =>
    e = .returned (.tuple #[.pointer (some ⟨w.heap.size, 0, none⟩), .int .i64 0]) ∧ Bd w' w.heap.size (.slice none 0 0) room [] 0 ∧ Below w.heap.size w w' := by
  have HB := Lib.hid (bd_built1 room)
  have HE := Lib.hid (show Bd (w.alloc (.cells (bdL room (fun _ => 0) (.slice none 0 0) (fun _ => 0) 0).toArray 126)) w.heap.size (.slice none 0 0) room [] 0 from Bd.first (by omega) (Blk.new w _ _))
  generalize (bdL room (fun _ => 0) (.slice none 0 0) (fun _ => 0) 0).toArray = cs at HB HE
  rcases h with rfl | rfl
  all_goals
    go_enter Tryz.func74, Tryz.ntmps74
    go_wp2_with (refine wpList_build_is rfl 126 #[(0, .tmp 10)] rfl [(0, .int .i64 _)] (by simp [Act.eval]) cs HB.out ?_)
    go_ret2
    exact ⟨rfl, HE.out, (Below.refl _ _).alloc (Nat.le_refl _) _⟩

/-- A place p that is free was found: it is the next byte's that comes in. -/
structure Fre (w w' : World) (g : Nat) (v v' : Value) (room : Nat) (es : List Ent) (u p : Nat) (k : Nat) (tb lf : Nat → Nat) (vs : List Th) : Prop where
  lt_ : p < vs.length
  most_ : vs.length ≤ 256
  head : Lst w' g (bdL room tb v' lf k)
  own_ : w'.ownsRow 0 46 1 v' vs.length (vs.map ev)
  ne : v'.ownBlock ≠ some g
  kept : Kept (bdD g v) w w'
  new : ∀ i, v'.ownBlock = some i → v.ownBlock = some i ∨ w.heap.size ≤ i
  used : vs.length ≤ max u (es.length + 1)
  pl : ∀ (b : UInt8) (x : Th), hasE es b.toNat = false → Pl room (setE es b x) k (turnN tb b.toNat (p + 1)) lf (vs.set p x)

def FrePost (w : World) (g : Nat) (v : Value) (room : Nat) (es : List Ent) (u : Nat) (e : Ending) (w' : World) : Prop :=
  ∃ (p k : Nat) (tb lf : Nat → Nat) (vs : List Th) (v' : Value), e = .returned (.int .i64 (p : Int)) ∧ Fre w w' g v v' room es u p k tb lf vs

theorem set_last {vs : List Th} (x : Th) : (vs ++ [none]).set vs.length x = vs ++ [x] := by
  rw [List.set_append_right _ _ (Nat.le_refl _), Nat.sub_self]; rfl

section
variable {w : World} {g room u : Nat} {es : List Ent} {v : Value}
set_option maxRecDepth 100000 in
theorem wfree_left {k : Nat} {tb lf : Nat → Nat} {vs : List Th} (h : BdIs w g v room es u (k + 1) tb lf vs) : Calls Tryz.prog 123 #[.pointer (some ⟨g, 0, none⟩)] w fun e w' => FrePost w g v room es u e w' := by
  have hf := h.pl.fre k (by omega)
  have hm := h.pl.most
  have hcap := h.pl.cap
  have hsum := h.pl.sum
  have hlen := h.len
  have hk : k < 256 := by omega
  have h1 : w.cell? ⟨g, 514, none⟩ = some (.int .i64 ((k + 1 : Nat) : Int)) := by rw [Lst.at_ h.head, bdL_lefts]
  have z1 : w.frozen? ⟨g, 514, none⟩ = false := Blk.fz h.head _
  have h2 : w.cell? ⟨g, 258 + k, none⟩ = some (.int .u8 (lf k : Int)) := by rw [Lst.at_ h.head, bdL_left hk]
  have HE := Lib.hid (fun q => show Fre w ((w.setCell ⟨g, 514, none⟩ (.int .i64 (k : Int))).drewN q) g v v room es u (lf k) k tb lf vs by
    have hL := Lst.set1 h.head 514 (.int .i64 (k : Int))
    rw [bdL_setK] at hL
    have hK : Kept (· = g) w (w.setCell ⟨g, 514, none⟩ (.int .i64 (k : Int))) := Kept.set_ _ _ _ rfl
    have hO := hK.owns h.own_ (fun i hi e => h.ne (by rw [hi, e]))
    have hK' : Kept (bdD g v) w (w.setCell ⟨g, 514, none⟩ (.int .i64 (k : Int))) := hK.mono (fun _ q => Or.inl q)
    exact ⟨hf.1, by omega, hL, by rw [hlen]; exact hO, h.ne, hK'.drewN q, fun i hi => Or.inl hi, by omega, fun b x hb => h.pl.set_left x hb⟩)
  have hp : lf k < 256 := by omega
  generalize hpp : lf k = p at h2 HE hp
  clear hpp h hf hsum hlen hm
  have e1 : ((k + 1 : Nat) : Int) = (k : Int) + 1 := by omega
  rw [e1] at h1
  have ew : IntKind.i64.wrap ((k : Int) + 1 - 1) = (k : Int) := by rw [show (k : Int) + 1 - 1 = (k : Int) by omega, IntKind.wrap_i64]; omega
  have ew1 : (k : Int) + 1 - 1 = (k : Int) := by omega
  have ew2 : IntKind.i64.wrap (k : Int) = (k : Int) := by rw [IntKind.wrap_i64]; omega
  have ew3 : IntKind.i64.wrap (p : Int) = (p : Int) := by rw [IntKind.wrap_i64]; omega
  have hki : (k : Int) < 256 := by omega
  have hpos : (0 : Int) < (k : Int) + 1 := by omega
  go_enter Tryz.func123, Tryz.ntmps123
  go_wp2_with fail
  go_quiet (fail)
  go_wp2
  go_ret
  exact ⟨p, k, tb, lf, vs, v, rfl, HE.out _⟩

set_option maxRecDepth 100000 in
theorem wfree_new {tb lf : Nat → Nat} {vs : List Th} (h : BdIs w g v room es u 0 tb lf vs) (hr : es.length < room) : Calls Tryz.prog 123 #[.pointer (some ⟨g, 0, none⟩)] w fun e w' => FrePost w g v room es u e w' := by
  have hm := h.pl.most
  have hcap := h.pl.cap
  have hsum := h.pl.sum
  have hlen := h.len
  obtain ⟨i0, hi0, hz0, hz1, hz2⟩ := info_parts num_info
  have h1 : w.cell? ⟨g, 514, none⟩ = some (.int .i64 0) := by rw [Lst.at_ h.head, bdL_lefts]; rfl
  have h2 : w.cell? ⟨g, 257, none⟩ = some v := by rw [Lst.at_ h.head, bdL_things]
  have HO := Lib.hid h.own_
  have hgl : g < w.heap.size := Blk.lt h.head
  have HN := Lib.hid h.ne
  have hu : u < 256 := by omega
  -- behind the append
  have HE := Lib.hid (fun (v' : Value) (w1 : World) (c : w1.ownsRow 0 46 1 v' (u + 1) (vs.map ev ++ [.pointer none])) (d : (w.alloc (.cells #[.pointer none] 46)).grownBy w1 v.ownBlock) (e : v'.ownBlock = v.ownBlock ∨ v'.ownBlock = some (w.alloc (.cells #[.pointer none] 46)).heap.size) =>
    show w1.cell? ⟨g, 257, none⟩ = some v ∧ w1.frozen? ⟨g, 257, none⟩ = false ∧ Fre w (w1.setCell ⟨g, 257, none⟩ v') g v v' room es u u 0 tb lf (vs ++ [none]) by
    have k1 : Kept (bdD g v) w w1 := ((Kept.of_below ((Below.refl _ _).alloc (Nat.le_refl _) _)).trans ((Kept.of_grown d).mono (fun i q => Or.inr q)))
    have k1' : Kept (fun i => v.ownBlock = some i) w w1 := ((Kept.of_below ((Below.refl _ _).alloc (Nat.le_refl _) _)).trans (Kept.of_grown d))
    have hh : Lst w1 g (bdL room tb v lf 0) := k1'.blk h.head h.ne
    have hne : v'.ownBlock ≠ some g := by
      rcases e with e | e
      · rw [e]; exact h.ne
      · rw [e]; intro q; injection q with q; rw [World.size_alloc] at q; omega
    have hK : Kept (· = g) w1 (w1.setCell ⟨g, 257, none⟩ v') := Kept.set_ _ _ _ rfl
    have hL := Lst.set1 hh 257 v'
    rw [bdL_setV] at hL
    refine ⟨by rw [Lst.at_ hh, bdL_things], Blk.fz hh _, by simp; omega, by simp; omega, hL, ?_, hne, k1.trans (hK.mono (fun _ q => Or.inl q)), fun i hi => ?_, by simp; omega, fun b x hb => ?_⟩
    · have hO := hK.owns c (fun i hi e => hne (by rw [hi, e]))
      rw [List.map_append, List.length_append, hlen]
      exact hO
    · rcases e with e | e
      · left; rw [← e]; exact hi
      · right; rw [e] at hi; injection hi with hi; rw [World.size_alloc] at hi; omega
    · have := h.pl.set_new x hb hr
      rw [← hlen, set_last]; exact this)
  have HL := Lib.hid (owns_slice h.own_)
  clear h hsum hlen hm
  go_enter Tryz.func123, Tryz.ntmps123
  go_wp2_with (at_builtin
               refine wpList_append_own_at _ rfl (.tmp 30) (.tmp 32) _ rfl 0 46 i0 (.pointer none) 1 8 Tryz.underlying33 hi0 hz0 hz1 hz2 rfl (by decide) v u (vs.map ev) rfl (HO.out.alloc _) ⟨w.heap.size, 0, none⟩ 1 1 [.pointer none] rfl rfl (cell_one_new _ _ _) (by intro u hu; simp at hu; subst hu; rfl) (by unfold maxLen; omega) (by omega) (by omega) ?_
               intro v' w1 ho1 hg1 _ hloc
               obtain ⟨c1, c2, c3⟩ := HE.out v' w1 ho1 hg1 hloc
               obtain ⟨A', cc, hv'⟩ := owns_slice ho1
               have HF := Lib.hid c3
               have HV' := Lib.hid hv'
               clear c3 ho1 hg1 hloc
               subst hv')
  go_ret
  exact ⟨u, 0, tb, lf, vs ++ [none], _, rfl, HF.out⟩

set_option maxRecDepth 100000 in
theorem wfree_any (h : Bd w g v room es u) (hr : es.length < room) : Calls Tryz.prog 123 #[.pointer (some ⟨g, 0, none⟩)] w fun e w' => FrePost w g v room es u e w' := by
  obtain ⟨k, tb, lf, vs, h⟩ := h
  cases k with
  | zero => exact wfree_new h hr
  | succ k => exact wfree_left h
end
end Go.Proofs.YtgelmhldicmmdaaGreat
