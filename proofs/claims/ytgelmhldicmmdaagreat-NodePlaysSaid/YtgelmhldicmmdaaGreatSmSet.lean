/-
  Package small: Set and Drop of a row that New gave.
-/
import Derived.Test.YtgelmhldicmmdaaGreatSmWrite
namespace Go.Proofs.YtgelmhldicmmdaaGreat
open Go.RowKit

/-- The cells of a row's own block. -/
def hdL (room : Nat) (bs : List UInt8) (t n : Nat) : List Value := .int .i64 (room : Int) :: (bs.map (fun u => Value.int .u8 (u.toNat : Int)) ++ [.slice (some ⟨t, 0, none⟩) n room])
theorem hdL_length {room t n : Nat} {bs : List UInt8} (hb : bs.length = 16) : (hdL room bs t n).length = 18 := by simp [hdL, hb]
theorem hdL_one {room t n : Nat} {bs : List UInt8} : ∀ v ∈ hdL room bs t n, v.oneCell' = true := by
  intro v hv
  simp only [hdL, List.mem_cons, List.mem_append, List.mem_map, List.not_mem_nil, or_false] at hv
  rcases hv with rfl | ⟨u, _, rfl⟩ | rfl <;> rfl
theorem hdL_bytes {room t n k m : Nat} {bs : List UInt8} (hb : bs.length = 16) (hk : k + m ≤ 16) : ((hdL room bs t n).drop (1 + k)).take m = ((bs.drop k).take m).map (fun u => Value.int .u8 (u.toNat : Int)) := by
  simp only [hdL]
  rw [Nat.add_comm 1 k, List.drop_succ_cons, List.drop_append_of_le_length (by simp [hb]; omega), List.take_append_of_le_length (by simp [hb]; omega), ← List.map_drop, ← List.map_take]
theorem hdL_spl {room t n k : Nat} {bs cs : List UInt8} (hb : bs.length = 16) (hk : k + cs.length ≤ 16) : spl (hdL room bs t n) (1 + k) (cs.map (fun u => Value.int .u8 (u.toNat : Int))) = hdL room (bs.take k ++ cs ++ bs.drop (k + cs.length)) t n := by
  simp only [spl, hdL, List.length_map]
  rw [Nat.add_comm 1 k, List.take_succ_cons, show k + 1 + cs.length = (k + cs.length) + 1 from by omega, List.drop_succ_cons, List.take_append_of_le_length (by simp [hb]; omega), List.drop_append_of_le_length (by simp [hb]; omega)]
  simp [List.map_take, List.map_drop]
theorem hdL_set {room t n k : Nat} {bs : List UInt8} {b : UInt8} (hb : bs.length = 16) (hk : k < 16) : (hdL room bs t n).set (1 + k) (.int .u8 (b.toNat : Int)) = hdL room (bs.set k b) t n := by
  simp only [hdL]
  rw [Nat.add_comm 1 k, List.set_cons_succ, List.set_append_left _ _ (by simp [hb]; omega), List.map_set]
theorem hdL_slice {room t n m : Nat} {bs : List UInt8} (hb : bs.length = 16) : (hdL room bs t n).set 17 (.slice (some ⟨t, 0, none⟩) m room) = hdL room bs t m := by
  simp only [hdL]
  rw [List.set_cons_succ, List.set_append_right _ _ (by simp [hb])]
  simp [hb]
theorem Sm.of {w : World} {g t room : Nat} {es : List Ent} (up : Up es) (few : es.length ≤ room) (lo : 1 ≤ room) (most : room ≤ 16) (ne : g ≠ t) {n : Nat} (hn : n = es.length) {bs : List UInt8} (hb : bs.length = 16) (hbt : bs.take n = es.map (·.1)) (hh : Lst w g (hdL room bs t n))
    {vs : List Th} (hv : vs.length = room) (hvt : vs.take n = es.map (·.2)) (hl : Lst w t (vs.map ev)) : Sm w g t room es := by
  subst hn
  exact ⟨up, few, lo, most, ne, ⟨bs, hb, hbt, hh⟩, ⟨vs, hv, hvt, hl⟩⟩
theorem set_ins {α : Type} {l : List α} {n p : Nat} {b : α} (hp : p ≤ n) (hn : n < l.length) : (l.take (p + 1) ++ (l.drop p).take (n - p) ++ l.drop (n + 1)).set p b = insL l n p b := by
  rw [List.append_assoc, List.set_append_left _ _ (by simp; omega), List.take_set.symm]
  unfold insL
  have e1 : (l.set p b).take (p + 1) = l.take p ++ [b] := by
    rw [List.take_add_one, List.take_set, List.set_eq_of_length_le (by simp; omega), List.getElem?_set]
    simp; omega
  rw [e1, List.drop_take]
  simp
theorem ev_one {vs : List Th} : ∀ v ∈ vs.map ev, v.oneCell' = true := by
  intro v hv
  obtain ⟨x, _, rfl⟩ := List.mem_map.1 hv
  rfl

section
variable {w : World} {g t room : Nat} {es : List Ent}
set_option maxRecDepth 100000 in
theorem sset_has (h : Sm w g t room es) (b : UInt8) (x : Th) (hb : hasE es b.toNat = true) : Calls Tryz.prog 102 #[.pointer (some ⟨g, 0, none⟩), .int .u8 (b.toNat : Int), ev x] w fun e w' =>
    e = .returned (.int .i64 0) ∧ Sm w' g t room (setE es b x) ∧ Kept (fun k => k = g ∨ k = t) w w' := by
  have C := Lib.hid (nobodys_any h.rd)
  have D := Lib.hid (place_any h.rd b)
  obtain ⟨a, ha, hab, _, hlt⟩ := has_at hb
  rw [hb] at D
  have hr : ¬ (room = 0) := by have := h.lo; omega
  rw [decide_eq_false hr] at C
  have hsl := h.rd.sl
  obtain ⟨bs, hbl, hbt, hh⟩ := h.head
  obtain ⟨vs, hvl, hvt, hl⟩ := h.things
  have hfew := Nat.le_trans h.few h.most
  have hp : pos es b.toNat < room := Nat.lt_of_lt_of_le hlt h.few
  obtain ⟨v0, hc⟩ : ∃ v0, w.cell? ⟨t, pos es b.toNat, none⟩ = some v0 := Option.isSome_iff_exists.1 (Lst.isSome hl (by simp; omega))
  have hz : w.frozen? ⟨t, pos es b.toNat, none⟩ = false := Blk.fz hl _
  have HE := Lib.hid (fun q => show Sm ((w.drewN q).setCell ⟨t, pos es b.toNat, none⟩ (ev x)) g t room (setE es b x) ∧ Kept (fun k => k = g ∨ k = t) w ((w.drewN q).setCell ⟨t, pos es b.toNat, none⟩ (ev x)) by
    have hlen : (setE es b x).length = es.length := by rw [set_length, if_pos hb]
    have hs : setE es b x = es.set (pos es b.toNat) (b, x) := by unfold setE; rw [if_pos hb]
    refine ⟨Sm.of (n := es.length) (set_up h.up b x) (by rw [hlen]; exact h.few) h.lo h.most h.ne hlen.symm hbl ?_ ?_ (vs := vs.set (pos es b.toNat) x) (by simpa using hvl) ?_ ?_, (Kept.refl _ _).drewN q |>.trans (Kept.set_ _ _ _ (.inr rfl))⟩
    · rw [hs, List.map_set, hbt]
      have ha' : (es.map (·.1))[pos es b.toNat]? = some b := by rw [List.getElem?_map, ha]; exact congrArg some (UInt8.toNat.inj hab)
      apply List.ext_getElem?
      intro i
      rw [List.getElem?_set]
      split
      · rename_i q; subst q; rw [ha']; simp [hlt]
      · rfl
    · exact (Kept.set_ (D := (· = t)) (w.drewN q) ⟨t, pos es b.toNat, none⟩ (ev x) rfl).blk (show Lst (w.drewN q) g (hdL room bs t es.length) from hh) h.ne
    · rw [hs, List.map_set, ← hvt, List.take_set]
    · rw [List.map_set]; exact Lst.set1 (show Lst (w.drewN q) t (vs.map ev) from hl) _ _)
  clear h hl hh hvt hbt ha hab hb
  generalize hpp : pos es b.toNat = p at D hc hz HE hlt
  generalize hnn : es.length = n at hsl hlt hfew
  clear hpp hnn
  go_enter Tryz.func102, Tryz.ntmps102
  go_wp2_with fail
  (with_reducible refine C.out.mono ?_)
  rintro e w' ⟨rfl, rfl⟩
  go_wp2_with fail
  (with_reducible refine D.out.mono ?_)
  rintro e w' ⟨rfl, q, rfl⟩
  go_wp2
  go_ret
  exact ⟨rfl, (HE.out q).1, (HE.out q).2⟩

set_option maxRecDepth 100000 in
theorem sset_full (h : Sm w g t room es) (b : UInt8) (x : Th) (hb : hasE es b.toNat = false) (hf : es.length = room) : Calls Tryz.prog 102 #[.pointer (some ⟨g, 0, none⟩), .int .u8 (b.toNat : Int), ev x] w fun e w' =>
    e = .returned (.int .i64 10) ∧ Still w w' := by
  have C := Lib.hid (nobodys_any h.rd)
  have D := Lib.hid (place_any h.rd b)
  rw [hb] at D
  have hr : ¬ (room = 0) := by have := h.lo; omega
  rw [decide_eq_false hr] at C
  have hsl := h.rd.sl
  have hro := h.rd.room
  rw [hf] at hsl
  clear h hb hf
  generalize pos es b.toNat = p at D
  go_enter Tryz.func102, Tryz.ntmps102
  go_wp2_with fail
  (with_reducible refine C.out.mono ?_)
  rintro e w' ⟨rfl, rfl⟩
  go_wp2_with fail
  (with_reducible refine D.out.mono ?_)
  rintro e w' ⟨rfl, q, rfl⟩
  go_wp2
  go_ret
  exact ⟨rfl, ⟨_, rfl⟩⟩

set_option maxHeartbeats 1000000 in
set_option maxRecDepth 100000 in
theorem sset_more (h : Sm w g t room es) (b : UInt8) (x : Th) (hb : hasE es b.toNat = false) (hf : es.length < room) : Calls Tryz.prog 102 #[.pointer (some ⟨g, 0, none⟩), .int .u8 (b.toNat : Int), ev x] w fun e w' =>
    e = .returned (.int .i64 0) ∧ Sm w' g t room (setE es b x) ∧ Kept (fun k => k = g ∨ k = t) w w' := by
  have C := Lib.hid (nobodys_any h.rd)
  have D := Lib.hid (place_any h.rd b)
  have HP := Lib.hid (pos_le es b.toNat)
  have HS := Lib.hid (show setE es b x = es.take (pos es b.toNat) ++ (b, x) :: es.drop (pos es b.toNat) by unfold setE; rw [hb, if_neg (by simp)])
  have HL := Lib.hid (show (setE es b x).length = es.length + 1 by rw [set_length, hb]; rfl)
  rw [hb] at D
  have hr : ¬ (room = 0) := by have := h.lo; omega
  rw [decide_eq_false hr] at C
  have HH := Lib.hid h
  clear h
  generalize hpp : pos es b.toNat = p at D HP HS
  go_enter Tryz.func102, Tryz.ntmps102
  go_wp2_with fail
  (with_reducible refine C.out.mono ?_)
  rintro e w' ⟨rfl, rfl⟩
  go_wp2_with fail
  (with_reducible refine D.out.mono ?_)
  rintro e W ⟨rfl, hst⟩
  have hW := HH.out.still hst
  have KW := Lib.hid (show Kept (fun k => k = g ∨ k = t) w' W by obtain ⟨q, rfl⟩ := hst; exact (Kept.refl _ _).drewN q)
  have hsl := hW.rd.sl
  have hro := hW.rd.room
  obtain ⟨bs, hbl, hbt, hh⟩ := hW.head
  obtain ⟨vs, hvl, hvt, hl⟩ := hW.things
  have hmost := hW.most
  have hne := hW.ne
  have hfew := hW.few
  have UP := Lib.hid hW.up
  have LO := Lib.hid hW.lo
  obtain ⟨n, hn⟩ : ∃ n, es.length = n := ⟨_, rfl⟩
  have HN := Lib.hid hn
  have hpn : p ≤ n := by have := HP.out; omega
  rw [hn] at hsl hbt hh hvt hf
  change Lst W g (hdL room bs t n) at hh
  have hnr : ¬ ((n : Int) = (room : Int)) := by omega
  clear hW hst hpp hn C D hb hfew
  obtain ⟨cs, hcs⟩ : ∃ cs, cs = (bs.drop p).take (n - p) := ⟨_, rfl⟩
  have hcl : cs.length = n - p := by subst hcs; simp [hbl]; omega
  have b1 : ∀ V, (Instr.sliceAt 120 (.pointer (some ⟨g, 1, none⟩)) (some (.int .i64 ((p : Int) + 1))) none none).run Tryz.prog V = .ok (.slice (some ⟨g, if 16 = p + 1 then 1 else 1 + (p + 1), none⟩) (16 - (p + 1)) (16 - (p + 1))) V := fun V => by
    rw [show ((p : Int) + 1) = ((p + 1 : Nat) : Int) by omega]
    exact bytes_l g (p + 1) (by omega) V
  have b2 := bytes_lh g p n hpn (by omega)
  rw [if_neg (show ¬ (16 = p) by omega)] at b2
  obtain ⟨od, hod⟩ : ∃ od, od = if 16 = p + 1 then 1 else 1 + (p + 1) := ⟨_, rfl⟩
  rw [← hod] at b1
  have hod1 : n - p ≠ 0 → od = 1 + (p + 1) := fun q => by subst hod; rw [if_neg (by omega)]
  have hod2 : od + (n - p) ≤ 18 := by
    by_cases q : n - p = 0
    · rw [q]; subst hod; split <;> omega
    · rw [hod1 q]; omega
  have hcp := Lib.hid (fun ty dc sc => copy_lst (P := Tryz.prog) (dT := 38) (sT := 38) (e := 5) ty Tryz.underlying38 (by kernel_rfl) (Lst.drew hh) (Lst.drew hh) od (16 - (p + 1)) dc (1 + p) (n - p) sc (n - p) (cs.map (fun u => Value.int .u8 (u.toNat : Int)))
    (by simp only [Nat.min_def]; split <;> omega) (by rw [hcs]; exact (hdL_bytes hbl (by omega)).symm) (by rw [hdL_length hbl]; omega) (by rw [hdL_length hbl]; omega) hdL_one)
  obtain ⟨W1, hW1⟩ : ∃ W1, W1 = W.drew.setCells g od (cs.map (fun u => Value.int .u8 (u.toNat : Int))) := ⟨_, rfl⟩
  obtain ⟨bs1, hbs1⟩ : ∃ bs1, bs1 = bs.take (p + 1) ++ cs ++ bs.drop (p + 1 + cs.length) := ⟨_, rfl⟩
  have hb1l : bs1.length = 16 := by subst hbs1; simp [hbl]; omega
  have hh1 : Lst W1 g (hdL room bs1 t n) := by
    subst hW1 hbs1
    by_cases q : n - p = 0
    · have : cs = [] := List.eq_nil_of_length_eq_zero (by omega)
      subst this
      simp only [List.map_nil, World.setCells, List.append_nil, List.length_nil, Nat.add_zero, List.take_append_drop]
      exact Lst.drew hh
    · rw [hod1 q, ← hdL_spl hbl (by omega)]
      exact Lst.setCells (Lst.drew hh) _ _ (by rw [hdL_length hbl]; simp; omega)
  have hl1 : Lst W1 t (vs.map ev) := by subst hW1; exact (Kept.setCells (· = g) W.drew g od _ rfl).blk (Lst.drew hl) (fun q => hne q.symm)
  have K1 := Lib.hid (show Kept (fun k => k = g ∨ k = t) w' W1 by subst hW1; exact KW.out.trans (((Kept.refl _ _).drew).trans (Kept.setCells _ _ _ _ _ (.inl rfl))))
  rw [← hW1] at hcp
  obtain ⟨v1, hc1⟩ : ∃ v1, W1.cell? ⟨g, 1 + p, none⟩ = some v1 := Option.isSome_iff_exists.1 (Lst.isSome hh1 (by rw [hdL_length hb1l]; omega))
  have hz1 : W1.frozen? ⟨g, 1 + p, none⟩ = false := Blk.fz hh1 _
  have hs1 : W1.cell? ⟨g, 17, none⟩ = some (.slice (some ⟨t, 0, none⟩) n room) := by rw [Lst.at_ hh1]; simp [hdL, hb1l]
  have q17 : ¬ (1 + p = 17) := by omega
  have q1 : IntKind.i64.wrap ((p : Int) + 1) = (p : Int) + 1 := by rw [IntKind.wrap_i64]; omega
  have q16 : p < 16 := by omega
  have HH1 := Lib.hid hh1
  have HL1 := Lib.hid hl1
  have HBS := Lib.hid hbs1
  have HCS := Lib.hid hcs
  have HBT := Lib.hid hbt
  have HVT := Lib.hid hvt
  have HVL := Lib.hid hvl
  have HBL := Lib.hid hbl
  have HB1L := Lib.hid hb1l
  clear hh hl hh1 hl1 hW1 hod hod1 hod2 hbs1 hcs hbt hvt hvl hbl hb1l hcl
  go_wp2_with fail
  go_region_law (refine step_cpy_run rfl (.tmp 44) (.tmp 50) 38 38 rfl (.slice (some ⟨g, od, none⟩) (16 - (p + 1)) (16 - (p + 1))) (.slice (some ⟨g, 1 + p, none⟩) (n - p) (16 - p)) (by simp [Act.eval, Act.put]) (by simp [Act.eval, Act.put]) (hcp.out _ _ _) ?_)
  go_wp2_with fail
  have k2 : Kept (· = g) W1 (W1.setCell ⟨g, 1 + p, none⟩ (.int .u8 (b.toNat : Int))) := Kept.set_ _ _ _ rfl
  have hh2 : Lst (W1.setCell ⟨g, 1 + p, none⟩ (.int .u8 (b.toNat : Int))) g (hdL room (bs1.set p b) t n) := by rw [← hdL_set HB1L.out q16]; exact Lst.set1 HH1.out _ _
  have hl2 : Lst (W1.setCell ⟨g, 1 + p, none⟩ (.int .u8 (b.toNat : Int))) t (vs.map ev) := k2.blk HL1.out (fun q => hne q.symm)
  obtain ⟨W2, hW2⟩ : ∃ W2, W2 = W1.setCell ⟨g, 1 + p, none⟩ (.int .u8 (b.toNat : Int)) := ⟨_, rfl⟩
  have hs2 : W2.heap.size = W1.heap.size := by subst hW2; simp
  rw [← hW2] at k2 hh2 hl2 ⊢
  rw [← hs2]
  have K2 := Lib.hid (K1.out.trans (k2.mono (fun q hq => Or.inl hq)))
  clear hW2 k2 hc1 hz1 hs1
  (with_reducible refine (insert_any t n room p W2.heap.size (vs.map ev) (ev x) _ (Blk.alloc hl2 _) (Blk.new W2 46 #[ev x]) (by have := Blk.lt hl2; omega) hpn hf hmost (by simpa using HVL.out) ev_one rfl).mono ?_)
  rintro e w4 ⟨rfl, h4, k4⟩
  have hh4 : Lst w4 g (hdL room (bs1.set p b) t n) := k4.blk (Blk.alloc hh2 _) hne
  have hs4 : w4.cell? ⟨g, 17, none⟩ = some (.slice (some ⟨t, 0, none⟩) n room) := by rw [Lst.at_ hh4]; simp [hdL, HB1L.out]
  have hz4 : w4.frozen? ⟨g, 17, none⟩ = false := Blk.fz hh4 _
  have HE := Lib.hid (show Sm (w4.setCell ⟨g, 17, none⟩ (.slice (some ⟨t, 0, none⟩) (n + 1) room)) g t room (setE es b x) ∧ Kept (fun k => k = g ∨ k = t) w' (w4.setCell ⟨g, 17, none⟩ (.slice (some ⟨t, 0, none⟩) (n + 1) room)) by
    have k5 := Kept.set_ (D := (· = g)) w4 ⟨g, 17, none⟩ (.slice (some ⟨t, 0, none⟩) (n + 1) room) rfl
    have hset : bs1.set p b = insL bs n p b := by
      have hb1 := HBS.out
      rw [HCS.out] at hb1
      rw [hb1, show ((bs.drop p).take (n - p)).length = n - p from by simp [HBL.out]; omega, show p + 1 + (n - p) = n + 1 from by omega]
      exact set_ins hpn (by have := HBL.out; omega)
    rw [hset] at hh4
    refine ⟨Sm.of (n := n + 1) (set_up UP.out b x) (by rw [HL.out, HN.out]; omega) LO.out hmost hne (by rw [HL.out, HN.out]) (bs := insL bs n p b) (by rw [insL_length hpn (by have := HBL.out; omega)]; exact HBL.out) ?_ ?_ (vs := insL vs n p x) (by rw [insL_length hpn (by have := HVL.out; omega)]; exact HVL.out) ?_ ?_, ?_⟩
    · rw [insL_take hpn (by have := HBL.out; omega), HBT.out, HS.out]; simp [List.map_take, List.map_drop]
    · rw [← hdL_slice (by rw [insL_length hpn (by have := HBL.out; omega)]; exact HBL.out)]; exact Lst.set1 hh4 _ _
    · rw [insL_take hpn (by have := HVL.out; omega), HVT.out, HS.out]; simp [List.map_take, List.map_drop]
    · rw [insL_map]; exact k5.blk h4 (fun q => hne q.symm)
    · exact ((K2.out.trans (Kept.of_below ((Below.refl _ _).alloc (Nat.le_refl _) _))).trans (k4.mono (fun q hq => Or.inr hq))).trans (k5.mono (fun q hq => Or.inl hq)))
  clear hh4 h4 k4 hh2 hl2
  go_wp2
  go_ret
  exact ⟨rfl, HE.out.1, HE.out.2⟩

set_option maxRecDepth 100000 in
theorem sdrop_none (h : Sm w g t room es) (b : UInt8) (hb : hasE es b.toNat = false) : Calls Tryz.prog 96 #[.pointer (some ⟨g, 0, none⟩), .int .u8 (b.toNat : Int)] w fun e w' =>
    e = .returned (.int .i64 6) ∧ Still w w' := by
  have C := Lib.hid (nobodys_any h.rd)
  have D := Lib.hid (place_any h.rd b)
  rw [hb] at D
  have hr : ¬ (room = 0) := by have := h.lo; omega
  rw [decide_eq_false hr] at C
  clear h hb
  generalize pos es b.toNat = p at D
  go_enter Tryz.func96, Tryz.ntmps96
  go_wp2_with fail
  (with_reducible refine C.out.mono ?_)
  rintro e w' ⟨rfl, rfl⟩
  go_wp2_with fail
  (with_reducible refine D.out.mono ?_)
  rintro e w' ⟨rfl, q, rfl⟩
  go_wp2
  go_ret
  exact ⟨rfl, ⟨_, rfl⟩⟩

set_option maxHeartbeats 1000000 in
set_option maxRecDepth 100000 in
theorem sdrop_has (h : Sm w g t room es) (b : UInt8) (hb : hasE es b.toNat = true) : Calls Tryz.prog 96 #[.pointer (some ⟨g, 0, none⟩), .int .u8 (b.toNat : Int)] w fun e w' =>
    e = .returned (.int .i64 0) ∧ Sm w' g t room (dropE es b) ∧ Kept (fun k => k = g ∨ k = t) w w' := by
  have C := Lib.hid (nobodys_any h.rd)
  have D := Lib.hid (place_any h.rd b)
  obtain ⟨a, ha, hab, _, hlt⟩ := has_at hb
  have HS := Lib.hid (show dropE es b = es.take (pos es b.toNat) ++ es.drop (pos es b.toNat + 1) by unfold dropE; rw [if_pos hb])
  have HL := Lib.hid (drop_length hb)
  rw [hb] at D
  have hr : ¬ (room = 0) := by have := h.lo; omega
  rw [decide_eq_false hr] at C
  have HH := Lib.hid h
  clear h ha hab
  generalize hpp : pos es b.toNat = p at D HS hlt
  go_enter Tryz.func96, Tryz.ntmps96
  go_wp2_with fail
  (with_reducible refine C.out.mono ?_)
  rintro e w' ⟨rfl, rfl⟩
  go_wp2_with fail
  (with_reducible refine D.out.mono ?_)
  rintro e W ⟨rfl, hst⟩
  have hW := HH.out.still hst
  have KW := Lib.hid (show Kept (fun k => k = g ∨ k = t) w' W by obtain ⟨q, rfl⟩ := hst; exact (Kept.refl _ _).drewN q)
  have hsl := hW.rd.sl
  obtain ⟨bs, hbl, hbt, hh⟩ := hW.head
  obtain ⟨vs, hvl, hvt, hl⟩ := hW.things
  have hmost := hW.most
  have hne := hW.ne
  have hfew := hW.few
  have UP := Lib.hid hW.up
  have LO := Lib.hid hW.lo
  obtain ⟨k, hk⟩ : ∃ k, es.length = p + 1 + k := ⟨es.length - (p + 1), by omega⟩
  have HN := Lib.hid hk
  rw [hk] at hsl hbt hh hvt hfew
  change Lst W g (hdL room bs t (p + 1 + k)) at hh
  clear hW hst hpp C D hb hlt hk
  obtain ⟨cs, hcs⟩ : ∃ cs, cs = (bs.drop (p + 1)).take k := ⟨_, rfl⟩
  have hcl : cs.length = k := by subst hcs; simp [hbl]; omega
  have b1 := bytes_l g p (by omega)
  rw [if_neg (show ¬ (16 = p) by omega)] at b1
  have b2 : ∀ V, (Instr.sliceAt 120 (.pointer (some ⟨g, 1, none⟩)) (some (.int .i64 ((p : Int) + 1))) (some (.int .i64 ((p : Int) + 1 + (k : Int)))) none).run Tryz.prog V = .ok (.slice (some ⟨g, if 16 = p + 1 then 1 else 1 + (p + 1), none⟩) k (16 - (p + 1))) V := fun V => by
    rw [show ((p : Int) + 1 + (k : Int)) = ((p + 1 + k : Nat) : Int) by omega, show ((p : Int) + 1) = ((p + 1 : Nat) : Int) by omega, bytes_lh g (p + 1) (p + 1 + k) (by omega) (by omega) V, show p + 1 + k - (p + 1) = k by omega]
  obtain ⟨od, hod⟩ : ∃ od, od = if 16 = p + 1 then 1 else 1 + (p + 1) := ⟨_, rfl⟩
  rw [← hod] at b2
  have hod1 : k ≠ 0 → od = 1 + (p + 1) := fun q => by subst hod; rw [if_neg (by omega)]
  have hod2 : od + k ≤ 18 := by
    by_cases q : k = 0
    · rw [q]; subst hod; split <;> omega
    · rw [hod1 q]; omega
  have hcp := Lib.hid (fun ty dc sc => copy_lst (P := Tryz.prog) (dT := 38) (sT := 38) (e := 5) ty Tryz.underlying38 (by kernel_rfl) (Lst.drew hh) (Lst.drew hh) (1 + p) (16 - p) dc od k sc k (cs.map (fun u => Value.int .u8 (u.toNat : Int)))
    (by simp only [Nat.min_def]; split <;> omega) (by
      by_cases q : k = 0
      · have : cs = [] := List.eq_nil_of_length_eq_zero (by omega)
        subst this
        rw [q]; simp
      · rw [hod1 q, hcs]; exact (hdL_bytes hbl (by omega)).symm) (by rw [hdL_length hbl]; omega) (by rw [hdL_length hbl]; omega) hdL_one)
  obtain ⟨W1, hW1⟩ : ∃ W1, W1 = W.drew.setCells g (1 + p) (cs.map (fun u => Value.int .u8 (u.toNat : Int))) := ⟨_, rfl⟩
  obtain ⟨bs1, hbs1⟩ : ∃ bs1, bs1 = bs.take p ++ cs ++ bs.drop (p + cs.length) := ⟨_, rfl⟩
  have hb1l : bs1.length = 16 := by subst hbs1; simp [hbl]; omega
  have hh1 : Lst W1 g (hdL room bs1 t (p + 1 + k)) := by
    subst hW1 hbs1
    rw [← hdL_spl hbl (by omega)]
    exact Lst.setCells (Lst.drew hh) _ _ (by rw [hdL_length hbl]; simp; omega)
  have hl1 : Lst W1 t (vs.map ev) := by subst hW1; exact (Kept.setCells (· = g) W.drew g (1 + p) _ rfl).blk (Lst.drew hl) (fun q => hne q.symm)
  have K1 := Lib.hid (show Kept (fun k => k = g ∨ k = t) w' W1 by subst hW1; exact KW.out.trans (((Kept.refl _ _).drew).trans (Kept.setCells _ _ _ _ _ (.inl rfl))))
  rw [← hW1] at hcp
  have hs1 : W1.cell? ⟨g, 17, none⟩ = some (.slice (some ⟨t, 0, none⟩) (p + 1 + k) room) := by rw [Lst.at_ hh1]; simp [hdL, hb1l]
  have q1 : IntKind.i64.wrap ((p : Int) + 1) = (p : Int) + 1 := by rw [IntKind.wrap_i64]; omega
  have HT := Lib.hid (show bs1.take (p + k) = (dropE es b).map (·.1) by
    rw [hbs1, hcl, List.take_append_of_le_length (by simp [hbl, hcl]; omega), List.take_of_length_le (by simp [hbl, hcl]; omega), HS.out, List.map_append, List.map_take, List.map_drop, ← hbt, hcs, List.take_take, Nat.min_eq_left (by omega), List.drop_take, show p + 1 + k - (p + 1) = k by omega])
  have HV := Lib.hid (show (delL vs (p + 1 + k) p (none : Th)).take (p + k) = (dropE es b).map (·.2) by
    have := delL_take (l := vs) (x := (none : Th)) (i := p) (n := p + 1 + k) (by omega) (by omega)
    rw [show p + 1 + k - 1 = p + k by omega] at this
    rw [this, hvt, HS.out, List.map_append, List.map_take, List.map_drop])
  have HH1 := Lib.hid hh1
  have HL1 := Lib.hid hl1
  have HVL := Lib.hid hvl
  have HB1L := Lib.hid hb1l
  clear hh hl hh1 hl1 hW1 hod hod1 hod2 hbs1 hcs hbt hvt hvl hbl hb1l hcl
  go_wp2_with fail
  go_region_law (refine step_cpy_run rfl (.tmp 21) (.tmp 32) 38 38 rfl (.slice (some ⟨g, 1 + p, none⟩) (16 - p) (16 - p)) (.slice (some ⟨g, od, none⟩) k (16 - (p + 1))) (by simp [Act.eval, Act.put]) (by simp [Act.eval, Act.put]) (hcp.out _ _ _) ?_)
  all_goals
    go_wp2_with fail
    (with_reducible refine (delete_any t k room p (vs.map ev) W1 HL1.out hfew hmost (by simpa using HVL.out) ev_one).mono ?_)
    rintro e w4 ⟨rfl, h4, k4⟩
    have hh4 : Lst w4 g (hdL room bs1 t (p + 1 + k)) := k4.blk HH1.out hne
    have hs4 : w4.cell? ⟨g, 17, none⟩ = some (.slice (some ⟨t, 0, none⟩) (p + 1 + k) room) := by rw [Lst.at_ hh4]; simp [hdL, HB1L.out]
    have hz4 : w4.frozen? ⟨g, 17, none⟩ = false := Blk.fz hh4 _
    have HE := Lib.hid (show Sm (w4.setCell ⟨g, 17, none⟩ (.slice (some ⟨t, 0, none⟩) (p + k) room)) g t room (dropE es b) ∧ Kept (fun k => k = g ∨ k = t) w' (w4.setCell ⟨g, 17, none⟩ (.slice (some ⟨t, 0, none⟩) (p + k) room)) by
      have k5 := Kept.set_ (D := (· = g)) w4 ⟨g, 17, none⟩ (.slice (some ⟨t, 0, none⟩) (p + k) room) rfl
      have hlen : p + k = (dropE es b).length := by have := HL.out; have := HN.out; omega
      refine ⟨Sm.of (n := p + k) (drop_up UP.out b) (by rw [← hlen]; omega) LO.out hmost hne hlen (bs := bs1) HB1L.out HT.out ?_ (vs := delL vs (p + 1 + k) p (none : Th)) (by rw [delL_length (by omega) (by have := HVL.out; omega)]; exact HVL.out) HV.out ?_, ?_⟩
      · rw [← hdL_slice HB1L.out]; exact Lst.set1 hh4 _ _
      · rw [delL_map]; exact k5.blk h4 (fun q => hne q.symm)
      · exact ((K1.out.trans (k4.mono (fun q hq => Or.inr hq)))).trans (k5.mono (fun q hq => Or.inl hq)))
    clear hh4 h4 k4
    go_wp2
    go_ret
    exact ⟨rfl, HE.out.1, HE.out.2⟩
end
end Go.Proofs.YtgelmhldicmmdaaGreat
