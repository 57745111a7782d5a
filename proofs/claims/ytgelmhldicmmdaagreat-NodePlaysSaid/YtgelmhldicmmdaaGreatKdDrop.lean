/-
  Package kids: Drop and Copy of kids that New gave; nobody's.
-/
import Derived.Test.YtgelmhldicmmdaaGreatKdSet
import Derived.Deep.RegionHeld3
namespace Go.Proofs.YtgelmhldicmmdaaGreat
open Go.RowKit

section
variable {w : World} {g : Nat} {o : Ho} {es : List Ent}
set_option maxRecDepth 100000 in
theorem kdrop_none (h : Kr w g o (kindN es.length) es) (b : UInt8) (hb : hasE es b.toNat = false) : Calls Tryz.prog 69 #[.pointer (some ⟨g, 0, none⟩), .int .u8 (b.toNat : Int)] w fun e w' =>
    e = .returned (.int .i64 6) ∧ KdPost w w' g o (dropE es b) := by
  have C := Lib.hid (kwhere_any h)
  have S := Lib.hid (hdrop_any h.is b _ rfl)
  have e0 : dropE es b = es := by unfold dropE; rw [hb]; rfl
  rw [dropN, hb, if_neg (by simp)] at S
  rw [e0] at S ⊢
  have HP := Lib.hid (fun (w' : World) (q : HoPost w w' o (kindN es.length) es) => show KdPost w w' g o es from q.kd h rfl)
  have F := o.mDrop (some ⟨o.at_, 0, none⟩)
  have E := o.cDrop
  rw [o.face_is] at C
  generalize o.T = T at F C
  generalize o.fDrop = f at F E S
  generalize o.at_ = a at F C S
  clear h hb e0
  go_enter Tryz.func69, Tryz.ntmps69
  go_wp2_with fail
  (with_reducible refine C.out.mono ?_)
  rintro e w1 ⟨rfl, rfl⟩
  go_wp2_with fail
  (with_reducible refine S.out.mono ?_)
  rintro e w2 ⟨rfl, hp⟩
  have P := Lib.hid (HP.out _ hp)
  clear hp
  go_wp2
  go_ret
  exact ⟨rfl, P.out⟩

set_option maxRecDepth 100000 in
set_option maxHeartbeats 1000000 in
theorem kdrop_has (h : Kr w g o (kindN es.length) es) (b : UInt8) (hb : hasE es b.toNat = true) : Calls Tryz.prog 69 #[.pointer (some ⟨g, 0, none⟩), .int .u8 (b.toNat : Int)] w fun e w' =>
    e = .returned (.int .i64 0) ∧ KdPost w w' g o (dropE es b) := by
  have C := Lib.hid (kwhere_any h)
  have S := Lib.hid (hdrop_any h.is b _ rfl)
  rw [dropN, if_pos hb] at S
  have H := Lib.hid h
  obtain ⟨l, hl⟩ : ∃ l, dropE es b = l := ⟨_, rfl⟩
  have hl1 := drop_length hb
  have hfew : es.length ≤ 256 := by have := h.is.few; omega
  rw [hl] at S hl1 ⊢
  have HK := Lib.hid (show kindZ (l.length : Int) = (kindN l.length : Int) from kindZ_nat (by omega))
  have HL := Lib.hid (show l.length ≤ kindN l.length from kindN_le (by omega))
  obtain ⟨rm, hrm⟩ : ∃ rm, kindN es.length = rm := ⟨_, rfl⟩
  obtain ⟨rl, hrl⟩ : ∃ rl, kindN l.length = rl := ⟨_, rfl⟩
  have HR := Lib.hid hrm
  have HM := Lib.hid hrl
  rw [hrm] at S
  rw [hrl] at HK
  have F := o.mDrop (some ⟨o.at_, 0, none⟩)
  have E := o.cDrop
  rw [o.face_is] at C
  generalize o.T = T at F C
  generalize o.fDrop = f at F E S
  generalize o.at_ = a at F C S
  have l256 : (l.length : Int) ≤ 256 := by omega
  have h0 : (0 : Int) ≤ (l.length : Int) := by omega
  by_cases hq : rl = rm
  all_goals
    have HQ := Lib.hid hq
    have hq2 : (rl : Int) = (rm : Int) ↔ rl = rm := by omega
    clear h hb hl hl1 hfew hrm hrl
    go_enter Tryz.func69, Tryz.ntmps69
    go_wp2_with fail
    (with_reducible refine C.out.mono ?_)
    rintro e w1 ⟨rfl, rfl⟩
    go_wp2_with fail
    (with_reducible refine S.out.mono ?_)
    rintro e w2 ⟨rfl, hp⟩
    have HPp := Lib.hid hp
    obtain ⟨o1, p1, p2, p3⟩ := hp.kr (HR.out ▸ H.out)
    have P1 := Lib.hid p1
    have P3 := Lib.hid p3
    clear hp p1 p2 p3 F E
    go_wp2_with fail
    (with_reducible refine (klen_any P1.out).mono ?_)
    rintro e w3 ⟨rfl, n3, rfl⟩
    go_wp2_with fail
    (with_reducible refine (kindof_any _ _).mono ?_)
    rintro e w4 ⟨rfl, rfl⟩
    rw [HK.out]
    go_wp2_with fail
    (with_reducible refine (kkind_any (P1.out.drewN n3)).mono ?_)
    rintro e w5 ⟨rfl, n5, rfl⟩
  · have P := Lib.hid (show KdPost w1 (w2.drewN (n3 + n5)) g o l from by
      obtain ⟨o', s1, s2, s3⟩ := HPp.out.kd (HR.out ▸ H.out) (by rw [HM.out, HQ.out])
      exact ⟨o', s1.drewN _, s2, s3.drewN _⟩)
    have hq3 : (rl : Int) = (rm : Int) := by omega
    go_wp2
    go_ret
    exact ⟨rfl, P.out⟩
  · have hq3 : ¬ ((rl : Int) = (rm : Int)) := by omega
    have HT := Lib.hid (show Calls Tryz.prog 66 #[.pointer (some ⟨g, 0, none⟩), .int .i64 (rl : Int)] (w2.drewN (n3 + n5)) fun e w' => e = .returned (.tuple #[]) ∧ KdPost w1 w' g o l from by
      have q := kturn_any (P1.out.drewN (n3 + n5)) HL.out
      rw [HM.out] at q
      refine q.mono ?_
      rintro e w' ⟨rfl, t⟩
      exact ⟨rfl, TurnPost.kd (P3.out.drewN (n3 + n5)) (by rw [HM.out]; exact t)⟩)
    go_wp2_with fail
    (with_reducible refine HT.out.mono ?_)
    rintro e w6 ⟨rfl, hp⟩
    have P := Lib.hid hp
    clear hp
    go_wp2
    go_ret
    exact ⟨rfl, P.out⟩
set_option maxRecDepth 100000 in
theorem kdrop_any (h : Kr w g o (kindN es.length) es) (b : UInt8) (z : Int) (hz : z = (b.toNat : Int)) : Calls Tryz.prog 69 #[.pointer (some ⟨g, 0, none⟩), .int .u8 z] w fun e w' =>
    e = .returned (.int .i64 (dropN es b)) ∧ KdPost w w' g o (dropE es b) := by
  subst hz
  cases hb : hasE es b.toNat with
  | true => have q := kdrop_has h b hb; simpa [dropN, hb] using q
  | false => have q := kdrop_none h b hb; simpa [dropN, hb] using q
end
end Go.Proofs.YtgelmhldicmmdaaGreat
