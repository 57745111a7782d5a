/-
  Package small: New, Set, Drop, Copy.
  Package small: Set and Drop of a row that New gave.
  Package small: Copy of a row that New gave.
-/
import Derived.Test.YtfmkhafpbfmadaaGreatSmRead
import Derived.Test.YtfmkhafpbfmadaaGreatSlIns
import Derived.Laws.MakeOwn
namespace Go.Proofs.YtfmkhafpbfmadaaGreat
open Go.RowKit

section
variable (w : World)
set_option maxRecDepth 100000 in
theorem sset_nil (b : Int) (x : Th) : Calls Tryz.prog 116 #[.pointer none, .int .u8 b, .pointer x] w fun e w' => e = .returned (.int .i64 2) ∧ w' = w := by
  go_enter Tryz.func116, Tryz.ntmps116
  go_wp2_with (go_at_call 87; refine (nobodys_nil _).mono ?_; rintro e w' ⟨rfl, rfl⟩)
  go_ret
  exact ⟨rfl, rfl⟩
set_option maxRecDepth 100000 in
theorem scopy_nil : Calls Tryz.prog 85 #[.pointer none] w fun e w' => e = .returned (.pointer none) ∧ w' = w := by
  go_enter Tryz.func85, Tryz.ntmps85
  go_wp2_with (go_at_call 87; refine (nobodys_nil _).mono ?_; rintro e w' ⟨rfl, rfl⟩)
  go_ret
  exact ⟨rfl, rfl⟩
set_option maxRecDepth 100000 in
theorem sget_nil (b : Int) : Calls Tryz.prog 111 #[.pointer none, .int .u8 b] w fun e w' => e = .returned (.tuple #[ev none, .bool false]) ∧ w' = w := by
  go_enter Tryz.func111, Tryz.ntmps111
  go_wp2_with (go_at_call 117; refine (place_nil _ _).mono ?_; rintro e w' ⟨rfl, rfl⟩)
  go_ret2
  exact ⟨rfl, rfl⟩
set_option maxRecDepth 100000 in
theorem snext_nil (a : Int) : Calls Tryz.prog 113 #[.pointer none, .int .i64 a] w fun e w' => e = .returned (entV none) ∧ w' = w := by
  by_cases h1 : 255 < a
  all_goals
    go_enter Tryz.func113, Tryz.ntmps113
    go_wp2_with (first | (go_at_call 117; refine (place_nil _ _).mono ?_; rintro e w' ⟨rfl, rfl⟩) | (go_at_call 118; refine (at_nil _ _).mono ?_; rintro e w' ⟨rfl, rfl⟩))
  all_goals
    go_ret3
    exact ⟨rfl, rfl⟩
end

section
variable {w : World} {g c : Nat} {es : List Ent} {A : Option Addr}
set_option maxRecDepth 100000 in
/-- One that New did not give. -/
theorem sset_zero (h : Rd w g 0 es A c) (b : Int) (x : Th) : Calls Tryz.prog 116 #[.pointer (some ⟨g, 0, none⟩), .int .u8 b, .pointer x] w fun e w' => e = .returned (.int .i64 2) ∧ w' = w := by
  have C := Lib.hid (nobodys_any h)
  clear h
  go_enter Tryz.func116, Tryz.ntmps116
  go_wp2_with fail
  (with_reducible refine C.out.mono ?_)
  rintro e w' ⟨rfl, rfl⟩
  go_wp2
  go_ret
  exact ⟨rfl, rfl⟩
set_option maxRecDepth 100000 in
theorem scopy_zero (h : Rd w g 0 es A c) : Calls Tryz.prog 85 #[.pointer (some ⟨g, 0, none⟩)] w fun e w' => e = .returned (.pointer none) ∧ w' = w := by
  have C := Lib.hid (nobodys_any h)
  clear h
  go_enter Tryz.func85, Tryz.ntmps85
  go_wp2_with fail
  (with_reducible refine C.out.mono ?_)
  rintro e w' ⟨rfl, rfl⟩
  go_wp2
  go_ret
  exact ⟨rfl, rfl⟩
end

set_option maxRecDepth 100000 in
theorem int_info : (Tryz.prog.info? 27).map (fun i => (i.zero, i.size, i.bytes)) = some (some (.pointer none), 1, 8) := by kernel_rfl
set_option maxRecDepth 100000 in
/-- make([]int, 0, k). -/
theorem make_things (k : Nat) (hk : k ≤ 16) (w : World) :
    (Instr.makeSlice 131 (.int .i64 0) (.int .i64 (k : Int))).run Tryz.prog w = .ok (.slice (some ⟨w.heap.size, 0, none⟩) 0 k) (w.alloc (.cells ((List.replicate k (none : Th)).map ev).toArray 27)) := by
  obtain ⟨i0, hi0, hz0, hz1, hz2⟩ := info_parts int_info
  have h := run_make (P := Tryz.prog) w 131 27 i0 (.pointer none) Tryz.underlying131 hi0 hz0 .i64 .i64 (0 : Int) (k : Int) (by omega) (by omega) (by rw [hz2]; omega) (by omega)
  rw [Int.toNat_natCast] at h
  have e1 : madeCells (.pointer none : Value).cells (k * i0.size) = ((List.replicate k (none : Th)).map ev).toArray := by
    rw [hz1, Nat.mul_one]
    apply Array.ext'
    simp [madeCells, Value.cells, Nat.mod_one, List.map_const']
  rw [e1] at h
  exact h

theorem Sm.first (w : World) (room : Nat) (h1 : 1 ≤ room) (h2 : room ≤ 16) :
    Sm ((w.alloc (.cells ((List.replicate room (none : Th)).map ev).toArray 27)).alloc (.cells #[.int .i64 (room : Int), .int .u8 0, .int .u8 0, .int .u8 0, .int .u8 0, .int .u8 0, .int .u8 0, .int .u8 0, .int .u8 0, .int .u8 0, .int .u8 0, .int .u8 0, .int .u8 0, .int .u8 0, .int .u8 0, .int .u8 0, .int .u8 0, .slice (some ⟨w.heap.size, 0, none⟩) 0 room] 134)) (w.heap.size + 1) w.heap.size room [] := by
  refine ⟨Up.nil, Nat.zero_le _, h1, h2, by omega, ⟨List.replicate 16 0, rfl, rfl, ?_⟩, ⟨List.replicate room (none : Th), by simp, rfl, ?_⟩⟩
  · have := Blk.new (w.alloc (.cells ((List.replicate room (none : Th)).map ev).toArray 27)) 134 #[.int .i64 (room : Int), .int .u8 0, .int .u8 0, .int .u8 0, .int .u8 0, .int .u8 0, .int .u8 0, .int .u8 0, .int .u8 0, .int .u8 0, .int .u8 0, .int .u8 0, .int .u8 0, .int .u8 0, .int .u8 0, .int .u8 0, .int .u8 0, .slice (some ⟨w.heap.size, 0, none⟩) 0 room]
    rw [World.size_alloc] at this
    exact this
  · exact (Blk.new w _ _).alloc _

set_option maxRecDepth 100000 in
theorem snew_no (w : World) (room : Int) (h : room < 1 ∨ 16 < room) : Calls Tryz.prog 77 #[.int .i64 room] w fun e w' => e = .returned (.tuple #[.pointer none, .int .i64 1]) ∧ w' = w := by
  by_cases h1 : room < 1
  · go_enter Tryz.func77, Tryz.ntmps77
    go_wp2
    go_ret2
    exact ⟨rfl, rfl⟩
  · have h2 : 16 < room := by omega
    go_enter Tryz.func77, Tryz.ntmps77
    go_wp2
    go_ret2
    exact ⟨rfl, rfl⟩
set_option maxRecDepth 100000 in
theorem snew_yes (w : World) (room : Nat) (h1 : 1 ≤ room) (h2 : room ≤ 16) : Calls Tryz.prog 77 #[.int .i64 (room : Int)] w fun e w' =>
    e = .returned (.tuple #[.pointer (some ⟨w.heap.size + 1, 0, none⟩), .int .i64 0]) ∧ Sm w' (w.heap.size + 1) w.heap.size room [] ∧ Below w.heap.size w w' := by
  have HE := Lib.hid (Sm.first w room h1 h2)
  have hm := make_things room h2 w
  generalize hcs : ((List.replicate room (none : Th)).map ev).toArray = cs at hm HE
  clear hcs
  have q1 : ¬ ((room : Int) < 1) := by omega
  have q2 : ¬ ((16 : Int) < (room : Int)) := by omega
  go_enter Tryz.func77, Tryz.ntmps77
  go_wp2
  go_ret2
  exact ⟨rfl, HE.out, ((Below.refl _ _).alloc (Nat.le_refl _) _).alloc (by simp) _⟩
end Go.Proofs.YtfmkhafpbfmadaaGreat

namespace Go.Proofs.YtfmkhafpbfmadaaGreat
open Go.RowKit

/-- The cells of a row's own block. -/
def hdL (room : Nat) (bs : List UInt8) (t n : Nat) : List Value := .int .i64 (room : Int) :: (bs.map (fun u => Value.int .u8 (u.toNat : Int)) ++ [.slice (some ⟨t, 0, none⟩) n room])
theorem hdL_length {room t n : Nat} {bs : List UInt8} (hb : bs.length = 16) : (hdL room bs t n).length = 18 := by simp [hdL, hb]
theorem hdL_one {room t n : Nat} {bs : List UInt8} : ∀ v ∈ hdL room bs t n, v.oneCell' = true := by
  intro v hv
  simp only [hdL, List.mem_cons, List.mem_append, List.mem_map, List.not_mem_nil, or_false] at hv
  rcases hv with rfl | ⟨u, _, rfl⟩ | rfl <;> rfl
theorem hdL_bytes {room t n k m : Nat} {bs : List UInt8} (hb : bs.length = 16) (hk : k + m ≤ 16) : ((hdL room bs t n).drop (1 + k)).take m = ((bs.drop k).take m).map (fun u => Value.int .u8 (u.toNat : Int)) := by
  simp only [hdL]
  rw [Nat.add_comm 1 k, List.drop_succ_cons, List.drop_append_of_le_length (by simp [hb]; omega), List.take_append_of_le_length (by simp [hb]; omega), ← List.map_drop, ← List.map_take]
theorem hdL_spl {room t n k : Nat} {bs cs : List UInt8} (hb : bs.length = 16) (hk : k + cs.length ≤ 16) : spl (hdL room bs t n) (1 + k) (cs.map (fun u => Value.int .u8 (u.toNat : Int))) = hdL room (bs.take k ++ cs ++ bs.drop (k + cs.length)) t n := by
  simp only [spl, hdL, List.length_map]
  rw [Nat.add_comm 1 k, List.take_succ_cons, show k + 1 + cs.length = (k + cs.length) + 1 from by omega, List.drop_succ_cons, List.take_append_of_le_length (by simp [hb]; omega), List.drop_append_of_le_length (by simp [hb]; omega)]
  simp [List.map_take, List.map_drop]
theorem hdL_set {room t n k : Nat} {bs : List UInt8} {b : UInt8} (hb : bs.length = 16) (hk : k < 16) : (hdL room bs t n).set (1 + k) (.int .u8 (b.toNat : Int)) = hdL room (bs.set k b) t n := by
  simp only [hdL]
  rw [Nat.add_comm 1 k, List.set_cons_succ, List.set_append_left _ _ (by simp [hb]; omega), List.map_set]
theorem hdL_slice {room t n m : Nat} {bs : List UInt8} (hb : bs.length = 16) : (hdL room bs t n).set 17 (.slice (some ⟨t, 0, none⟩) m room) = hdL room bs t m := by
  simp only [hdL]
  rw [List.set_cons_succ, List.set_append_right _ _ (by simp [hb])]
  simp [hb]
theorem Sm.of {w : World} {g t room : Nat} {es : List Ent} (up : Up es) (few : es.length ≤ room) (lo : 1 ≤ room) (most : room ≤ 16) (ne : g ≠ t) {n : Nat} (hn : n = es.length) {bs : List UInt8} (hb : bs.length = 16) (hbt : bs.take n = es.map (·.1)) (hh : Lst w g (hdL room bs t n))
    {vs : List Th} (hv : vs.length = room) (hvt : vs.take n = es.map (·.2)) (hl : Lst w t (vs.map ev)) : Sm w g t room es := by
  subst hn
  exact ⟨up, few, lo, most, ne, ⟨bs, hb, hbt, hh⟩, ⟨vs, hv, hvt, hl⟩⟩
theorem set_ins {α : Type} {l : List α} {n p : Nat} {b : α} (hp : p ≤ n) (hn : n < l.length) : (l.take (p + 1) ++ (l.drop p).take (n - p) ++ l.drop (n + 1)).set p b = insL l n p b := by
  rw [List.append_assoc, List.set_append_left _ _ (by simp; omega), List.take_set.symm]
  unfold insL
  have e1 : (l.set p b).take (p + 1) = l.take p ++ [b] := by
    rw [List.take_add_one, List.take_set, List.set_eq_of_length_le (by simp; omega), List.getElem?_set]
    simp; omega
  rw [e1, List.drop_take]
  simp
theorem ev_one {vs : List Th} : ∀ v ∈ vs.map ev, v.oneCell' = true := by
  intro v hv
  obtain ⟨x, _, rfl⟩ := List.mem_map.1 hv
  rfl

section
variable {w : World} {g t room : Nat} {es : List Ent}
set_option maxRecDepth 100000 in
theorem sset_has (h : Sm w g t room es) (b : UInt8) (x : Th) (hb : hasE es b.toNat = true) : Calls Tryz.prog 116 #[.pointer (some ⟨g, 0, none⟩), .int .u8 (b.toNat : Int), ev x] w fun e w' =>
    e = .returned (.int .i64 0) ∧ Sm w' g t room (setE es b x) ∧ Kept (fun k => k = g ∨ k = t) w w' := by
  have C := Lib.hid (nobodys_any h.rd)
  have D := Lib.hid (place_any h.rd b)
  obtain ⟨a, ha, hab, _, hlt⟩ := has_at hb
  rw [hb] at D
  have hr : ¬ (room = 0) := by have := h.lo; omega
  rw [decide_eq_false hr] at C
  have hsl := h.rd.sl
  obtain ⟨bs, hbl, hbt, hh⟩ := h.head
  obtain ⟨vs, hvl, hvt, hl⟩ := h.things
  have hfew := Nat.le_trans h.few h.most
  have hp : pos es b.toNat < room := Nat.lt_of_lt_of_le hlt h.few
  obtain ⟨v0, hc⟩ : ∃ v0, w.cell? ⟨t, pos es b.toNat, none⟩ = some v0 := Option.isSome_iff_exists.1 (Lst.isSome hl (by simp; omega))
  have hz : w.frozen? ⟨t, pos es b.toNat, none⟩ = false := Blk.fz hl _
  have HE := Lib.hid (fun q => show Sm ((w.drewN q).setCell ⟨t, pos es b.toNat, none⟩ (ev x)) g t room (setE es b x) ∧ Kept (fun k => k = g ∨ k = t) w ((w.drewN q).setCell ⟨t, pos es b.toNat, none⟩ (ev x)) by
    have hlen : (setE es b x).length = es.length := by rw [set_length, if_pos hb]
    have hs : setE es b x = es.set (pos es b.toNat) (b, x) := by unfold setE; rw [if_pos hb]
    refine ⟨Sm.of (n := es.length) (set_up h.up b x) (by rw [hlen]; exact h.few) h.lo h.most h.ne hlen.symm hbl ?_ ?_ (vs := vs.set (pos es b.toNat) x) (by simpa using hvl) ?_ ?_, (Kept.refl _ _).drewN q |>.trans (Kept.set_ _ _ _ (.inr rfl))⟩
    · rw [hs, List.map_set, hbt]
      have ha' : (es.map (·.1))[pos es b.toNat]? = some b := by rw [List.getElem?_map, ha]; exact congrArg some (UInt8.toNat.inj hab)
      apply List.ext_getElem?
      intro i
      rw [List.getElem?_set]
      split
      · rename_i q; subst q; rw [ha']; simp [hlt]
      · rfl
    · exact (Kept.set_ (D := (· = t)) (w.drewN q) ⟨t, pos es b.toNat, none⟩ (ev x) rfl).blk (show Lst (w.drewN q) g (hdL room bs t es.length) from hh) h.ne
    · rw [hs, List.map_set, ← hvt, List.take_set]
    · rw [List.map_set]; exact Lst.set1 (show Lst (w.drewN q) t (vs.map ev) from hl) _ _)
  clear h hl hh hvt hbt ha hab hb
  generalize hpp : pos es b.toNat = p at D hc hz HE hlt
  generalize hnn : es.length = n at hsl hlt hfew
  clear hpp hnn
  go_enter Tryz.func116, Tryz.ntmps116
  go_wp2_with fail
  (with_reducible refine C.out.mono ?_)
  rintro e w' ⟨rfl, rfl⟩
  go_wp2_with fail
  (with_reducible refine D.out.mono ?_)
  rintro e w' ⟨rfl, q, rfl⟩
  go_wp2
  go_ret
  exact ⟨rfl, (HE.out q).1, (HE.out q).2⟩

set_option maxRecDepth 100000 in
theorem sset_full (h : Sm w g t room es) (b : UInt8) (x : Th) (hb : hasE es b.toNat = false) (hf : es.length = room) : Calls Tryz.prog 116 #[.pointer (some ⟨g, 0, none⟩), .int .u8 (b.toNat : Int), ev x] w fun e w' =>
    e = .returned (.int .i64 10) ∧ Still w w' := by
  have C := Lib.hid (nobodys_any h.rd)
  have D := Lib.hid (place_any h.rd b)
  rw [hb] at D
  have hr : ¬ (room = 0) := by have := h.lo; omega
  rw [decide_eq_false hr] at C
  have hsl := h.rd.sl
  have hro := h.rd.room
  rw [hf] at hsl
  clear h hb hf
  generalize pos es b.toNat = p at D
  go_enter Tryz.func116, Tryz.ntmps116
  go_wp2_with fail
  (with_reducible refine C.out.mono ?_)
  rintro e w' ⟨rfl, rfl⟩
  go_wp2_with fail
  (with_reducible refine D.out.mono ?_)
  rintro e w' ⟨rfl, q, rfl⟩
  go_wp2
  go_ret
  exact ⟨rfl, ⟨_, rfl⟩⟩

set_option maxHeartbeats 1000000 in
set_option maxRecDepth 100000 in
theorem sset_more (h : Sm w g t room es) (b : UInt8) (x : Th) (hb : hasE es b.toNat = false) (hf : es.length < room) : Calls Tryz.prog 116 #[.pointer (some ⟨g, 0, none⟩), .int .u8 (b.toNat : Int), ev x] w fun e w' =>
    e = .returned (.int .i64 0) ∧ Sm w' g t room (setE es b x) ∧ Kept (fun k => k = g ∨ k = t) w w' := by
  have C := Lib.hid (nobodys_any h.rd)
  have D := Lib.hid (place_any h.rd b)
  have HP := Lib.hid (pos_le es b.toNat)
  have HS := Lib.hid (show setE es b x = es.take (pos es b.toNat) ++ (b, x) :: es.drop (pos es b.toNat) by unfold setE; rw [hb, if_neg (by simp)])
  have HL := Lib.hid (show (setE es b x).length = es.length + 1 by rw [set_length, hb]; rfl)
  rw [hb] at D
  have hr : ¬ (room = 0) := by have := h.lo; omega
  rw [decide_eq_false hr] at C
  have HH := Lib.hid h
  clear h
  generalize hpp : pos es b.toNat = p at D HP HS
  go_enter Tryz.func116, Tryz.ntmps116
  go_wp2_with fail
  (with_reducible refine C.out.mono ?_)
  rintro e w' ⟨rfl, rfl⟩
  go_wp2_with fail
  (with_reducible refine D.out.mono ?_)
  rintro e W ⟨rfl, hst⟩
  have hW := HH.out.still hst
  have KW := Lib.hid (show Kept (fun k => k = g ∨ k = t) w' W by obtain ⟨q, rfl⟩ := hst; exact (Kept.refl _ _).drewN q)
  have hsl := hW.rd.sl
  have hro := hW.rd.room
  obtain ⟨bs, hbl, hbt, hh⟩ := hW.head
  obtain ⟨vs, hvl, hvt, hl⟩ := hW.things
  have hmost := hW.most
  have hne := hW.ne
  have hfew := hW.few
  have UP := Lib.hid hW.up
  have LO := Lib.hid hW.lo
  obtain ⟨n, hn⟩ : ∃ n, es.length = n := ⟨_, rfl⟩
  have HN := Lib.hid hn
  have hpn : p ≤ n := by have := HP.out; omega
  rw [hn] at hsl hbt hh hvt hf
  change Lst W g (hdL room bs t n) at hh
  have hnr : ¬ ((n : Int) = (room : Int)) := by omega
  clear hW hst hpp hn C D hb hfew
  obtain ⟨cs, hcs⟩ : ∃ cs, cs = (bs.drop p).take (n - p) := ⟨_, rfl⟩
  have hcl : cs.length = n - p := by subst hcs; simp [hbl]; omega
  have b1 : ∀ V, (Instr.sliceAt 132 (.pointer (some ⟨g, 1, none⟩)) (some (.int .i64 ((p : Int) + 1))) none none).run Tryz.prog V = .ok (.slice (some ⟨g, if 16 = p + 1 then 1 else 1 + (p + 1), none⟩) (16 - (p + 1)) (16 - (p + 1))) V := fun V => by
    rw [show ((p : Int) + 1) = ((p + 1 : Nat) : Int) by omega]
    exact bytes_l g (p + 1) (by omega) V
  have b2 := bytes_lh g p n hpn (by omega)
  rw [if_neg (show ¬ (16 = p) by omega)] at b2
  obtain ⟨od, hod⟩ : ∃ od, od = if 16 = p + 1 then 1 else 1 + (p + 1) := ⟨_, rfl⟩
  rw [← hod] at b1
  have hod1 : n - p ≠ 0 → od = 1 + (p + 1) := fun q => by subst hod; rw [if_neg (by omega)]
  have hod2 : od + (n - p) ≤ 18 := by
    by_cases q : n - p = 0
    · rw [q]; subst hod; split <;> omega
    · rw [hod1 q]; omega
  have hcp := Lib.hid (fun ty dc sc => copy_lst (P := Tryz.prog) (dT := 23) (sT := 23) (e := 5) ty Tryz.underlying23 (by kernel_rfl) (Lst.drew hh) (Lst.drew hh) od (16 - (p + 1)) dc (1 + p) (n - p) sc (n - p) (cs.map (fun u => Value.int .u8 (u.toNat : Int)))
    (by simp only [Nat.min_def]; split <;> omega) (by rw [hcs]; exact (hdL_bytes hbl (by omega)).symm) (by rw [hdL_length hbl]; omega) (by rw [hdL_length hbl]; omega) hdL_one)
  obtain ⟨W1, hW1⟩ : ∃ W1, W1 = W.drew.setCells g od (cs.map (fun u => Value.int .u8 (u.toNat : Int))) := ⟨_, rfl⟩
  obtain ⟨bs1, hbs1⟩ : ∃ bs1, bs1 = bs.take (p + 1) ++ cs ++ bs.drop (p + 1 + cs.length) := ⟨_, rfl⟩
  have hb1l : bs1.length = 16 := by subst hbs1; simp [hbl]; omega
  have hh1 : Lst W1 g (hdL room bs1 t n) := by
    subst hW1 hbs1
    by_cases q : n - p = 0
    · have : cs = [] := List.eq_nil_of_length_eq_zero (by omega)
      subst this
      simp only [List.map_nil, World.setCells, List.append_nil, List.length_nil, Nat.add_zero, List.take_append_drop]
      exact Lst.drew hh
    · rw [hod1 q, ← hdL_spl hbl (by omega)]
      exact Lst.setCells (Lst.drew hh) _ _ (by rw [hdL_length hbl]; simp; omega)
  have hl1 : Lst W1 t (vs.map ev) := by subst hW1; exact (Kept.setCells (· = g) W.drew g od _ rfl).blk (Lst.drew hl) (fun q => hne q.symm)
  have K1 := Lib.hid (show Kept (fun k => k = g ∨ k = t) w' W1 by subst hW1; exact KW.out.trans (((Kept.refl _ _).drew).trans (Kept.setCells _ _ _ _ _ (.inl rfl))))
  rw [← hW1] at hcp
  obtain ⟨v1, hc1⟩ : ∃ v1, W1.cell? ⟨g, 1 + p, none⟩ = some v1 := Option.isSome_iff_exists.1 (Lst.isSome hh1 (by rw [hdL_length hb1l]; omega))
  have hz1 : W1.frozen? ⟨g, 1 + p, none⟩ = false := Blk.fz hh1 _
  have hs1 : W1.cell? ⟨g, 17, none⟩ = some (.slice (some ⟨t, 0, none⟩) n room) := by rw [Lst.at_ hh1]; simp [hdL, hb1l]
  have q17 : ¬ (1 + p = 17) := by omega
  have q1 : IntKind.i64.wrap ((p : Int) + 1) = (p : Int) + 1 := by rw [IntKind.wrap_i64]; omega
  have q16 : p < 16 := by omega
  have HH1 := Lib.hid hh1
  have HL1 := Lib.hid hl1
  have HBS := Lib.hid hbs1
  have HCS := Lib.hid hcs
  have HBT := Lib.hid hbt
  have HVT := Lib.hid hvt
  have HVL := Lib.hid hvl
  have HBL := Lib.hid hbl
  have HB1L := Lib.hid hb1l
  clear hh hl hh1 hl1 hW1 hod hod1 hod2 hbs1 hcs hbt hvt hvl hbl hb1l hcl
  go_wp2_with fail
  go_region_law (refine step_cpy_run rfl (.tmp 44) (.tmp 50) 23 23 rfl (.slice (some ⟨g, od, none⟩) (16 - (p + 1)) (16 - (p + 1))) (.slice (some ⟨g, 1 + p, none⟩) (n - p) (16 - p)) (by simp [Act.eval, Act.put]) (by simp [Act.eval, Act.put]) (hcp.out _ _ _) ?_)
  go_wp2_with fail
  have k2 : Kept (· = g) W1 (W1.setCell ⟨g, 1 + p, none⟩ (.int .u8 (b.toNat : Int))) := Kept.set_ _ _ _ rfl
  have hh2 : Lst (W1.setCell ⟨g, 1 + p, none⟩ (.int .u8 (b.toNat : Int))) g (hdL room (bs1.set p b) t n) := by rw [← hdL_set HB1L.out q16]; exact Lst.set1 HH1.out _ _
  have hl2 : Lst (W1.setCell ⟨g, 1 + p, none⟩ (.int .u8 (b.toNat : Int))) t (vs.map ev) := k2.blk HL1.out (fun q => hne q.symm)
  obtain ⟨W2, hW2⟩ : ∃ W2, W2 = W1.setCell ⟨g, 1 + p, none⟩ (.int .u8 (b.toNat : Int)) := ⟨_, rfl⟩
  have hs2 : W2.heap.size = W1.heap.size := by subst hW2; simp
  rw [← hW2] at k2 hh2 hl2 ⊢
  rw [← hs2]
  have K2 := Lib.hid (K1.out.trans (k2.mono (fun q hq => Or.inl hq)))
  clear hW2 k2 hc1 hz1 hs1
  (with_reducible refine (insert_any t n room p W2.heap.size (vs.map ev) (ev x) _ (Blk.alloc hl2 _) (Blk.new W2 27 #[ev x]) (by have := Blk.lt hl2; omega) hpn hf hmost (by simpa using HVL.out) ev_one rfl).mono ?_)
  rintro e w4 ⟨rfl, h4, k4⟩
  have hh4 : Lst w4 g (hdL room (bs1.set p b) t n) := k4.blk (Blk.alloc hh2 _) hne
  have hs4 : w4.cell? ⟨g, 17, none⟩ = some (.slice (some ⟨t, 0, none⟩) n room) := by rw [Lst.at_ hh4]; simp [hdL, HB1L.out]
  have hz4 : w4.frozen? ⟨g, 17, none⟩ = false := Blk.fz hh4 _
  have HE := Lib.hid (show Sm (w4.setCell ⟨g, 17, none⟩ (.slice (some ⟨t, 0, none⟩) (n + 1) room)) g t room (setE es b x) ∧ Kept (fun k => k = g ∨ k = t) w' (w4.setCell ⟨g, 17, none⟩ (.slice (some ⟨t, 0, none⟩) (n + 1) room)) by
    have k5 := Kept.set_ (D := (· = g)) w4 ⟨g, 17, none⟩ (.slice (some ⟨t, 0, none⟩) (n + 1) room) rfl
    have hset : bs1.set p b = insL bs n p b := by
      have hb1 := HBS.out
      rw [HCS.out] at hb1
      rw [hb1, show ((bs.drop p).take (n - p)).length = n - p from by simp [HBL.out]; omega, show p + 1 + (n - p) = n + 1 from by omega]
      exact set_ins hpn (by have := HBL.out; omega)
    rw [hset] at hh4
    refine ⟨Sm.of (n := n + 1) (set_up UP.out b x) (by rw [HL.out, HN.out]; omega) LO.out hmost hne (by rw [HL.out, HN.out]) (bs := insL bs n p b) (by rw [insL_length hpn (by have := HBL.out; omega)]; exact HBL.out) ?_ ?_ (vs := insL vs n p x) (by rw [insL_length hpn (by have := HVL.out; omega)]; exact HVL.out) ?_ ?_, ?_⟩
    · rw [insL_take hpn (by have := HBL.out; omega), HBT.out, HS.out]; simp [List.map_take, List.map_drop]
    · rw [← hdL_slice (by rw [insL_length hpn (by have := HBL.out; omega)]; exact HBL.out)]; exact Lst.set1 hh4 _ _
    · rw [insL_take hpn (by have := HVL.out; omega), HVT.out, HS.out]; simp [List.map_take, List.map_drop]
    · rw [insL_map]; exact k5.blk h4 (fun q => hne q.symm)
    · exact ((K2.out.trans (Kept.of_below ((Below.refl _ _).alloc (Nat.le_refl _) _))).trans (k4.mono (fun q hq => Or.inr hq))).trans (k5.mono (fun q hq => Or.inl hq)))
  clear hh4 h4 k4 hh2 hl2
  go_wp2
  go_ret
  exact ⟨rfl, HE.out.1, HE.out.2⟩

end
end Go.Proofs.YtfmkhafpbfmadaaGreat

namespace Go.Proofs.YtfmkhafpbfmadaaGreat
open Go.RowKit

theorem size_setCells (w : World) (g o : Nat) (vs : List Value) : (w.setCells g o vs).heap.size = w.heap.size := by
  induction vs generalizing w o with
  | nil => rfl
  | cons v r ih => rw [World.setCells, ih]; simp
set_option maxRecDepth 100000 in
theorem row_info : (Tryz.prog.info? 134).map (·.size) = some 18 := by kernel_rfl

set_option maxHeartbeats 1000000 in
set_option maxRecDepth 100000 in
theorem scopy_any {w : World} {g t room : Nat} {es : List Ent} (h : Sm w g t room es) : Calls Tryz.prog 85 #[.pointer (some ⟨g, 0, none⟩)] w fun e w' =>
    e = .returned (.pointer (some ⟨w.heap.size, 0, none⟩)) ∧ Sm w' w.heap.size (w.heap.size + 1) room es ∧ Below w.heap.size w w' := by
  have C := Lib.hid (nobodys_any h.rd)
  have hr : ¬ (room = 0) := by have := h.lo; omega
  rw [decide_eq_false hr] at C
  obtain ⟨hg, ht⟩ := h.lt
  obtain ⟨bs, hbl, hbt, hh⟩ := h.head
  obtain ⟨vs, hvl, hvt, hl⟩ := h.things
  have hmost := h.most
  have hfew := h.few
  obtain ⟨n, hn⟩ : ∃ n, es.length = n := ⟨_, rfl⟩
  have HN := Lib.hid hn
  have HP := Lib.hid (And.intro h.up (And.intro h.lo h.ne))
  rw [hn] at hbt hh hvt hfew
  change Lst w g (hdL room bs t n) at hh
  clear hn h
  have h18 := hdL_length (room := room) (t := t) (n := n) hbl
  have HR := Lib.hid (Lst.all hh)
  have H18 := Lib.hid (show (Tryz.prog.info? 134).map (·.size) = some (hdL room bs t n).length by rw [h18]; exact row_info)
  have H18' := Lib.hid (show (Tryz.prog.info? 134).map (·.size) = some (hdL room bs t n).toArray.size by rw [List.size_toArray, h18]; exact row_info)
  -- the block that the copy is laid into
  have HZ := Lib.hid (Blk.new w 134 #[.int .i64 0, .int .u8 0, .int .u8 0, .int .u8 0, .int .u8 0, .int .u8 0, .int .u8 0, .int .u8 0, .int .u8 0, .int .u8 0, .int .u8 0, .int .u8 0, .int .u8 0, .int .u8 0, .int .u8 0, .int .u8 0, .int .u8 0, .slice none 0 0])
  have HT := Lib.hid (Lst.there HZ.out (o := 0) (n := (hdL room bs t n).toArray.size) (by rw [List.size_toArray, h18]; exact Nat.le_refl _))
  obtain ⟨W1, hW1⟩ : ∃ W1, W1 = (w.alloc (.cells #[.int .i64 0, .int .u8 0, .int .u8 0, .int .u8 0, .int .u8 0, .int .u8 0, .int .u8 0, .int .u8 0, .int .u8 0, .int .u8 0, .int .u8 0, .int .u8 0, .int .u8 0, .int .u8 0, .int .u8 0, .int .u8 0, .int .u8 0, .slice none 0 0] 134)).setCells w.heap.size 0 (hdL room bs t n).toArray.toList := ⟨_, rfl⟩
  have hh1 : Lst W1 w.heap.size (hdL room bs t n) := by
    subst hW1
    have := Lst.setCells HZ.out 0 (hdL room bs t n) (by rw [h18]; exact Nat.le_refl _)
    have e : spl [.int .i64 0, .int .u8 0, .int .u8 0, .int .u8 0, .int .u8 0, .int .u8 0, .int .u8 0, .int .u8 0, .int .u8 0, .int .u8 0, .int .u8 0, .int .u8 0, .int .u8 0, .int .u8 0, .int .u8 0, .int .u8 0, .int .u8 0, .slice none 0 0] 0 (hdL room bs t n) = hdL room bs t n := by
      unfold spl
      rw [h18]
      simp
    rw [e] at this
    exact this
  have k1 : Kept (· = w.heap.size) w W1 := by subst hW1; exact (Kept.of_below ((Below.refl _ _).alloc (Nat.le_refl _) _)).trans (Kept.setCells _ _ _ _ _ rfl)
  have hg1 : Lst W1 g (hdL room bs t n) := k1.blk hh (by omega)
  have hl1 : Lst W1 t (vs.map ev) := k1.blk hl (by omega)
  have hs1 : W1.heap.size = w.heap.size + 1 := by
    subst hW1
    rw [size_setCells, World.size_alloc]
  have HW1 := Lib.hid hW1
  clear hW1 hh hl
  -- the things' copy
  obtain ⟨i0, hi0, hz0, hz1, hz2⟩ := info_parts int_info
  obtain ⟨W2, hW2⟩ : ∃ W2, W2 = W1.drew.alloc (.cells ((List.replicate room (none : Th)).map ev).toArray 27) := ⟨_, rfl⟩
  have ht2 : Lst W2 (w.heap.size + 1) ((List.replicate room (none : Th)).map ev) := by subst hW2; have := Blk.new W1.drew 27 ((List.replicate room (none : Th)).map ev).toArray; rw [show W1.drew.heap.size = w.heap.size + 1 from hs1] at this; exact this
  have k2 : Kept (fun _ => False) W1 W2 := by subst hW2; exact (Kept.refl _ _).drew.trans (Kept.of_below ((Below.refl _ _).alloc (Nat.le_refl _) _))
  have hg2 : Lst W2 g (hdL room bs t n) := k2.blk hg1 (fun q => q)
  have hh2 : Lst W2 w.heap.size (hdL room bs t n) := k2.blk hh1 (fun q => q)
  have hl2 : Lst W2 t (vs.map ev) := k2.blk hl1 (fun q => q)
  obtain ⟨ns, hns⟩ : ∃ ns, ns = (vs.take n).map ev := ⟨_, rfl⟩
  have hnl : ns.length = n := by subst hns; simp; omega
  have HA := Lib.hid (fun ty c => run_append_room_cells (P := Tryz.prog) W2 131 ty 27 i0 Tryz.underlying131 hi0 (w.heap.size + 1) 0 0 room ⟨t, 0, none⟩ n c ns (by rw [hz1]; omega)
    (fun j u hj => by
      rw [Addr.add_lit, Lst.at_ hl2, Nat.zero_add]
      subst hns
      rw [List.map_take, List.getElem?_take] at hj
      split at hj
      · exact hj
      · cases hj) (fun u hu => by subst hns; exact ev_one u hu) (by omega) (fun j hj => Lst.isSome ht2 (by rw [hz1]; simp; omega)) (fun j hj => Blk.fz ht2 _))
  rw [Nat.zero_mul, Nat.zero_add, Nat.zero_add] at HA
  obtain ⟨W3, hW3⟩ : ∃ W3, W3 = W2.setCells (w.heap.size + 1) 0 ns := ⟨_, rfl⟩
  have k3 : Kept (· = w.heap.size + 1) W2 W3 := by subst hW3; exact Kept.setCells _ _ _ _ _ rfl
  have ht3 : Lst W3 (w.heap.size + 1) ((vs.take n ++ List.replicate (room - n) (none : Th)).map ev) := by
    subst hW3
    have := Lst.setCells ht2 0 ns (by rw [hnl]; simp; omega)
    have e : spl ((List.replicate room (none : Th)).map ev) 0 ns = (vs.take n ++ List.replicate (room - n) (none : Th)).map ev := by
      unfold spl
      rw [hnl, hns]
      simp
    rw [e] at this
    exact this
  have hh3 : Lst W3 w.heap.size (hdL room bs t n) := k3.blk hh2 (by omega)
  rw [← hW3] at HA
  have hc3 : W3.cell? ⟨w.heap.size, 17, none⟩ = some (.slice (some ⟨t, 0, none⟩) n room) := by rw [Lst.at_ hh3]; simp [hdL, hbl]
  have hz3 : W3.frozen? ⟨w.heap.size, 17, none⟩ = false := Blk.fz hh3 _
  have HE := Lib.hid (show Sm (W3.setCell ⟨w.heap.size, 17, none⟩ (.slice (some ⟨w.heap.size + 1, 0, none⟩) n room)) w.heap.size (w.heap.size + 1) room es ∧ Below w.heap.size w (W3.setCell ⟨w.heap.size, 17, none⟩ (.slice (some ⟨w.heap.size + 1, 0, none⟩) n room)) by
    have k4 := Kept.set_ (D := (· = w.heap.size)) W3 ⟨w.heap.size, 17, none⟩ (.slice (some ⟨w.heap.size + 1, 0, none⟩) n room) rfl
    refine ⟨Sm.of (n := n) HP.out.1 (by rw [HN.out]; exact hfew) HP.out.2.1 hmost (by omega) HN.out.symm (bs := bs) hbl hbt ?_ (vs := vs.take n ++ List.replicate (room - n) (none : Th)) (by simp; omega) (by rw [List.take_append_of_le_length (by simp; omega), List.take_take, Nat.min_self]; exact hvt) ?_, ?_⟩
    · have := Lst.set1 hh3 17 (.slice (some ⟨w.heap.size + 1, 0, none⟩) n room)
      have e : (hdL room bs t n).set 17 (.slice (some ⟨w.heap.size + 1, 0, none⟩) n room) = hdL room bs (w.heap.size + 1) n := by
        simp only [hdL]
        rw [List.set_cons_succ, List.set_append_right _ _ (by simp [hbl])]
        simp [hbl]
      rw [e] at this
      exact this
    · exact k4.blk ht3 (by omega)
    · exact ((((k1.mono (D' := fun k => w.heap.size ≤ k) (fun q hq => by omega)).trans (k2.mono (fun q hq => hq.elim))).trans (k3.mono (fun q hq => by omega))).trans (k4.mono (fun q hq => by omega))).below (Nat.le_refl _) (fun q hq => hq))
  have hm1 := make_things room hmost W1.drew
  rw [← hW2, show W1.drew.heap.size = w.heap.size + 1 from hs1] at hm1
  have hgr : W1.cell? ⟨g, 0, none⟩ = some (.int .i64 (room : Int)) := by rw [Lst.at_ hg1]; rfl
  have hgs : W1.cell? ⟨g, 17, none⟩ = some (.slice (some ⟨t, 0, none⟩) n room) := by rw [Lst.at_ hg1]; simp [hdL, hbl]
  have hgs2 : W2.cell? ⟨g, 17, none⟩ = some (.slice (some ⟨t, 0, none⟩) n room) := by rw [Lst.at_ hg2]; simp [hdL, hbl]
  have ONE := Lib.hid (all_oneCell_toArray (hdL_one (room := room) (bs := bs) (t := t) (n := n)))
  clear hg1 hl1 hh1 ht2 k1 k2 hg2 hh2 hl2 hns hnl hW2 hW3 k3 ht3 hh3 hbt hvt hvl hbl h18 hz0 hz1 hz2 hi0
  generalize hdL room bs t n = hd at HR H18 H18' HT HW1 ONE
  go_enter Tryz.func85, Tryz.ntmps85
  go_wp2_with fail
  (with_reducible refine C.out.mono ?_)
  rintro e w' ⟨rfl, rfl⟩
  go_wp2_with (first
    | (refine wpList_load_mid rfl 134 (.tmp 7) rfl g 0 rfl hd _ HR.out Tryz.underlying134 rfl H18.out ?_)
    | (refine wpList_store_mid rfl 134 (.tmp 3) (.tmp 8) rfl w'.heap.size 0 hd.toArray rfl rfl HT.out H18'.out ONE.out ?_; rw [← HW1.out]))
  go_region_law (refine step_app_run rfl (.tmp 13) (.tmp 17) 131 131 rfl (.slice (some ⟨w'.heap.size + 1, 0, none⟩) 0 room) (.slice (some ⟨t, 0, none⟩) n room) (by simp [Act.eval]) (by simp [Act.eval]) (HA.out _ _) ?_)
  all_goals
    go_wp2
    go_ret
    exact ⟨rfl, HE.out.1, HE.out.2⟩

/-- What Set answers, and leaves; what Drop answers. -/
def setN (room : Nat) (es : List Ent) (b : UInt8) : Int := if hasE es b.toNat = false ∧ es.length = room then 10 else 0
def setR (room : Nat) (es : List Ent) (b : UInt8) (x : Th) : List Ent := if hasE es b.toNat = false ∧ es.length = room then es else setE es b x
def dropN (es : List Ent) (b : UInt8) : Int := if hasE es b.toNat = true then 0 else 6
section
variable {w : World} {g t room : Nat} {es : List Ent}
theorem Kept.still {D : Nat → Prop} {w w' : World} (h : Still w w') : Kept D w w' := by obtain ⟨n, rfl⟩ := h; exact (Kept.refl _ _).drewN n
set_option maxRecDepth 100000 in
theorem sset_any (h : Sm w g t room es) (b : UInt8) (x : Th) (z : Int) (hz : z = (b.toNat : Int)) : Calls Tryz.prog 116 #[.pointer (some ⟨g, 0, none⟩), .int .u8 z, ev x] w fun e w' =>
    e = .returned (.int .i64 (setN room es b)) ∧ Sm w' g t room (setR room es b x) ∧ Kept (fun k => k = g ∨ k = t) w w' := by
  subst hz
  cases hb : hasE es b.toNat with
  | true =>
    refine (sset_has h b x hb).mono ?_
    rintro e w' ⟨rfl, h1, h2⟩
    exact ⟨by simp [setN, hb], by simpa [setR, hb] using h1, h2⟩
  | false =>
    by_cases hf : es.length = room
    · refine (sset_full h b x hb hf).mono ?_
      rintro e w' ⟨rfl, hs⟩
      exact ⟨by simp [setN, hb, hf], by simpa [setR, hb, hf] using h.still hs, Kept.still hs⟩
    · refine (sset_more h b x hb (by have := h.few; omega)).mono ?_
      rintro e w' ⟨rfl, h1, h2⟩
      exact ⟨by simp [setN, hf], by simpa [setR, hf] using h1, h2⟩
set_option maxRecDepth 100000 in
theorem sget_z (h : Sm w g t room es) (b : UInt8) (z : Int) (hz : z = (b.toNat : Int)) : Calls Tryz.prog 111 #[.pointer (some ⟨g, 0, none⟩), .int .u8 z] w fun e w' => e = .returned (.tuple #[ev (getE es b.toNat), .bool (hasE es b.toNat)]) ∧ Still w w' := by
  subst hz
  exact sget_any h.rd b
end
end Go.Proofs.YtfmkhafpbfmadaaGreat
