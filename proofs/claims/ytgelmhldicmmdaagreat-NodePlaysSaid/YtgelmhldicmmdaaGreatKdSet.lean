/-
  Package kids: Set and Drop of kids that New gave.
-/
import Derived.Test.YtgelmhldicmmdaaGreatKdTurn
namespace Go.Proofs.YtgelmhldicmmdaaGreat
open Go.RowKit

theorem kindN_more {n : Nat} (h : n < kindN n) : kindN (n + 1) = kindN n := by
  revert h
  unfold kindN
  repeat' split
  all_goals omega
theorem kindN_mono {n m : Nat} (h : n ≤ m) : kindN n ≤ kindN m := by
  unfold kindN
  repeat' split
  all_goals omega

/-- What Set and Drop leave: kids that hold es, of its kind; their blocks are those that they had, or new. -/
def KdPost (w w' : World) (g : Nat) (o : Ho) (es : List Ent) : Prop :=
  ∃ o' : Ho, Kr w' g o' (kindN es.length) es ∧ (∀ i, o'.D i → o.D i ∨ w.heap.size ≤ i) ∧ Kept (o.all g) w w'
section
variable {w w' : World} {g room : Nat} {o : Ho} {es es' : List Ent}
theorem HoPost.kr (h : Kr w g o room es) (hp : HoPost w w' o room es') : ∃ o', Kr w' g o' room es' ∧ (∀ i, o'.D i → o.D i ∨ w.heap.size ≤ i) ∧ Kept o.D w w' := by
  obtain ⟨o', h1, _, h3, h4, h5⟩ := hp
  refine ⟨o', ⟨?_, h1, fun q => ?_⟩, h4, h5⟩
  · rw [h3]; exact h5.blk h.two h.ne
  · rcases h4 g q with q | q
    · exact h.ne q
    · have := h.lt0; omega
theorem HoPost.kd (h : Kr w g o room es) (hp : HoPost w w' o room es') (hr : room = kindN es'.length) : KdPost w w' g o es' := by
  obtain ⟨o', h1, h2, h3⟩ := hp.kr h
  exact ⟨o', hr ▸ h1, h2, h3.mono (fun i hi => .inr hi)⟩
/-- Turned behind what Set or Drop left. -/
theorem TurnPost.kd {w1 w2 : World} {es2 : List Ent} (k1 : Kept o.D w w1) (h2 : TurnPost w1 w2 g (kindN es2.length) es2) : KdPost w w2 g o es2 := by
  obtain ⟨d, q1, q2, q3⟩ := h2
  exact ⟨d, q1, fun i hi => .inr (Nat.le_trans k1.size (q2 i hi)), (k1.mono (fun i hi => .inr hi)).trans (q3.mono (fun i hi => .inl hi))⟩

set_option maxRecDepth 100000 in
theorem kset_room (h : Kr w g o (kindN es.length) es) (b : UInt8) (x : Th) (hb : ¬ (hasE es b.toNat = false ∧ es.length = kindN es.length)) : Calls Tryz.prog 40 #[.pointer (some ⟨g, 0, none⟩), .int .u8 (b.toNat : Int), ev x] w fun e w' =>
    e = .returned (.int .i64 0) ∧ KdPost w w' g o (setE es b x) := by
  have hl := h.is.few.1
  have C := Lib.hid (kwhere_any h)
  have S := Lib.hid (hset_any h.is b x _ rfl)
  rw [setN, if_neg hb, setR, if_neg hb] at S
  have HP := Lib.hid (fun (w' : World) (q : HoPost w w' o (kindN es.length) (setE es b x)) => show KdPost w w' g o (setE es b x) from q.kd h (by
    rw [set_length]
    cases hh : hasE es b.toNat with
    | true => simp
    | false =>
      have : es.length < kindN es.length := by rcases Nat.lt_or_eq_of_le hl with q | q; exact q; exact absurd ⟨hh, q⟩ hb
      simpa using (kindN_more this).symm))
  have F := o.mSet (some ⟨o.at_, 0, none⟩)
  have E := o.cSet
  rw [o.face_is] at C
  generalize o.T = T at F C
  generalize o.fSet = f at F E S
  generalize o.at_ = a at F C S
  generalize setE es b x = es' at S HP ⊢
  clear h hb hl
  go_enter Tryz.func40, Tryz.ntmps40
  go_wp2_with fail
  (with_reducible refine C.out.mono ?_)
  rintro e w1 ⟨rfl, rfl⟩
  go_wp2_with fail
  (with_reducible refine S.out.mono ?_)
  rintro e w2 ⟨rfl, hp⟩
  have P := Lib.hid (HP.out _ hp)
  clear hp
  go_wp2
  go_ret
  exact ⟨rfl, P.out⟩

set_option maxRecDepth 100000 in
set_option maxHeartbeats 1000000 in
theorem kset_full (h : Kr w g o (kindN es.length) es) (b : UInt8) (x : Th) (hb : hasE es b.toNat = false) (hf : es.length = kindN es.length) : Calls Tryz.prog 40 #[.pointer (some ⟨g, 0, none⟩), .int .u8 (b.toNat : Int), ev x] w fun e w' =>
    e = .returned (.int .i64 0) ∧ KdPost w w' g o (setE es b x) := by
  have hu := h.is.up
  have h256 : es.length + 1 ≤ 256 := by
    have q := pos256 (set_up hu b x)
    rw [pos_all, set_length, hb] at q
    simpa using q
  have C := Lib.hid (kwhere_any h)
  have S := Lib.hid (hset_any h.is b x _ rfl)
  rw [setN, if_pos ⟨hb, hf⟩, setR, if_pos ⟨hb, hf⟩] at S
  have H := Lib.hid h
  have hl1 : (setE es b x).length = es.length + 1 := by rw [set_length, hb]; simp
  have HK := Lib.hid (show kindZ ((es.length : Int) + 1) = (kindN (es.length + 1) : Int) from by rw [← kindZ_nat h256]; rfl)
  have HL := Lib.hid (show es.length ≤ kindN (es.length + 1) from by have := kindN_le h256; omega)
  have HS2 := Lib.hid (fun (d : Ho) (W : World) (hd : d.Is W (kindN (es.length + 1)) es) => show Calls Tryz.prog d.fSet #[.pointer (some ⟨d.at_, 0, none⟩), .int .u8 (b.toNat : Int), ev x] W fun e w' => e = .returned (.int .i64 0) ∧ HoPost W w' d (kindN (es.length + 1)) (setE es b x) from by
    have q := hset_any hd b x _ rfl
    have hne : ¬ (hasE es b.toNat = false ∧ es.length = kindN (es.length + 1)) := by rintro ⟨_, q⟩; have := kindN_le h256; omega
    rw [setN, if_neg hne, setR, if_neg hne] at q
    exact q)
  have HP := Lib.hid (fun (w1 w2 w3 : World) (o1 : Ho) (q1 : Kept o.D w w1) (d : Ho) (r1 : Kr w2 g d (kindN (es.length + 1)) es) (r2 : ∀ i, d.D i → w1.heap.size ≤ i) (r3 : Kept (· = g) w1 w2) (q3 : HoPost w2 w3 d (kindN (es.length + 1)) (setE es b x)) => show KdPost w w3 g o (setE es b x) from by
    obtain ⟨d', s1, s2, s3⟩ := q3.kr r1
    refine ⟨d', by rw [hl1]; exact s1, fun i hi => .inr ?_, ?_⟩
    · have := q1.size
      have := r3.size
      rcases s2 i hi with q | q
      · have := r2 i q; omega
      · omega
    · refine ((q1.mono (D' := o.all g) (fun i hi => .inr hi)).trans (r3.mono (fun i hi => .inl hi))).trans' s3 (fun i hi hd => ?_)
      have := r2 i hd
      have := q1.size
      omega)
  have F := o.mSet (some ⟨o.at_, 0, none⟩)
  have E := o.cSet
  rw [o.face_is] at C
  generalize o.T = T at F C
  generalize o.fSet = f at F E S
  generalize o.at_ = a at F C S
  generalize setE es b x = es' at HS2 HP ⊢
  have h256' : (es.length : Int) + 1 ≤ 256 := by omega
  have h0 : (0 : Int) ≤ (es.length : Int) := by omega
  have ew : IntKind.i64.wrap ((es.length : Int) + 1) = (es.length : Int) + 1 := by rw [IntKind.wrap_i64]; omega
  clear h hb hf hu hl1 h256
  go_enter Tryz.func40, Tryz.ntmps40
  go_wp2_with fail
  (with_reducible refine C.out.mono ?_)
  rintro e w1 ⟨rfl, rfl⟩
  go_wp2_with fail
  (with_reducible refine S.out.mono ?_)
  rintro e w2 ⟨rfl, hp⟩
  obtain ⟨o1, p1, p2, p3⟩ := hp.kr H.out
  have P1 := Lib.hid p1
  have P3 := Lib.hid p3
  clear hp p1 p2 p3 F E
  go_wp2_with fail
  (with_reducible refine (klen_any P1.out).mono ?_)
  rintro e w3 ⟨rfl, n3, rfl⟩
  go_wp2_with fail
  (with_reducible refine (kindof_any _ _).mono ?_)
  rintro e w4 ⟨rfl, rfl⟩
  rw [HK.out]
  go_wp2_with fail
  (with_reducible refine (kturn_any (P1.out.drewN n3) HL.out).mono ?_)
  rintro e w5 ⟨rfl, d, r1, r2, r3⟩
  have R1 := Lib.hid r1
  have R2 := Lib.hid r2
  have R3 := Lib.hid r3
  have C5 := Lib.hid (kwhere_any r1)
  have S5 := Lib.hid (HS2.out d w5 r1.is)
  have F := d.mSet (some ⟨d.at_, 0, none⟩)
  have E := d.cSet
  rw [d.face_is] at C5
  generalize d.T = Td at F C5
  generalize d.fSet = fd at F E S5
  generalize d.at_ = ad at F C5 S5
  clear r1 r2 r3
  go_wp2_with fail
  (with_reducible refine C5.out.mono ?_)
  rintro e w6 ⟨rfl, rfl⟩
  go_wp2_with fail
  (with_reducible refine S5.out.mono ?_)
  rintro e w7 ⟨rfl, hp⟩
  have P := Lib.hid (HP.out _ _ _ o1 (P3.out.drewN n3) d R1.out R2.out R3.out hp)
  clear hp
  go_wp2
  go_ret
  exact ⟨rfl, P.out⟩
set_option maxRecDepth 100000 in
theorem kset_any (h : Kr w g o (kindN es.length) es) (b : UInt8) (x : Th) (z : Int) (hz : z = (b.toNat : Int)) : Calls Tryz.prog 40 #[.pointer (some ⟨g, 0, none⟩), .int .u8 z, ev x] w fun e w' =>
    e = .returned (.int .i64 0) ∧ KdPost w w' g o (setE es b x) := by
  subst hz
  by_cases hb : hasE es b.toNat = false ∧ es.length = kindN es.length
  · exact kset_full h b x hb.1 hb.2
  · exact kset_room h b x hb
end
end Go.Proofs.YtgelmhldicmmdaaGreat
