/-
  The document's board of nothing.
-/
import Derived.Test.YtgaoefhmjdhacaaDocSet
namespace Go.Proofs.Ytgaoefhmjdhacaa
open Go.RowKit

set_option maxRecDepth 100000 in
theorem rwnew_any (w : World) (x : Int) (rm : Nat) (er : Int) (hr : (x ≠ 48 ∧ x ≠ 256) ∧ rm = 0 ∧ er = 1 ∨ (rm = 48 ∨ rm = 256) ∧ x = (rm : Int) ∧ er = 0) : Calls Try.prog 7 #[.int .i64 x] w fun e w' =>
    e = .returned (.tuple #[.agg (docL rm []).toArray, .int .i64 er]) ∧ Below w.heap.size w w' := by
  have HZ := Lib.hid (show Lst (w.alloc (.cells zeroL.toArray 30)) w.heap.size zeroL from Blk.new w _ _)
  have HT := Lib.hid (Lst.there HZ.out (o := 0) (n := (docL rm []).toArray.size) (by rw [docA_size, zeroL_length]; exact Nat.le_refl _))
  have HS := Lib.hid (show (Try.prog.info? 30).map (·.size) = some (docL rm []).toArray.size by rw [docA_size]; exact doc_size)
  have HO := Lib.hid (all_oneCell_toArray (docL_one (room := rm) (es := [])))
  have HE := Lib.hid (show Lst ((w.alloc (.cells zeroL.toArray 30)).setCells w.heap.size 0 (docL rm []).toArray.toList) w.heap.size (docL rm []) from doc_over HZ.out zeroL_length)
  have HB := Lib.hid (show Below w.heap.size w ((w.alloc (.cells zeroL.toArray 30)).setCells w.heap.size 0 (docL rm []).toArray.toList) from
    ((Kept.of_below ((Below.refl _ _).alloc (Nat.le_refl _) _)).trans (Kept.setCells (· = w.heap.size) _ _ _ _ rfl)).below (Nat.le_refl _) (fun q hq => by omega))
  obtain ⟨W0, hW0⟩ : ∃ W0, W0 = w.alloc (.cells zeroL.toArray 30) := ⟨_, rfl⟩
  rw [← hW0] at HT HE HB
  have HW0 := Lib.hid hW0
  obtain ⟨W1, hW1⟩ : ∃ W1, W1 = W0.setCells w.heap.size 0 (docL rm []).toArray.toList := ⟨_, rfl⟩
  rw [← hW1] at HE HB
  have HW1 := Lib.hid hW1
  clear hW0 hW1 HZ
  rcases hr with ⟨⟨h1, h2⟩, rfl, rfl⟩ | ⟨h1, rfl, rfl⟩
  · have HRT := Lib.hid (fun (tmps : Array Value) (hp : tmps.getD 2 undef = .pointer (some ⟨w.heap.size, 0, none⟩)) => doc_ret Try.f7 rfl tmps HE.out hp)
    have b0 := Lib.hid doc_built0
    generalize (docL 0 []).toArray = cs at HT HS HO HW1 b0 HRT ⊢
    have q1 : (x != 48) = true := by simpa using h1
    have q2 : (x != 256) = true := by simpa using h2
    go_enter Try.func7, Try.ntmps7
    go_wp2_with (first
      | (refine wpList_alloc_z rfl 30 rfl zeroL.toArray doc_zero ?_; rw [← HW0.out])
      | (refine wpList_build_is rfl 30 #[] rfl [] (by simp) cs b0.out ?_)
      | (refine wpList_store_mid rfl 30 (.tmp 2) (.tmp 10) rfl w.heap.size 0 cs rfl rfl HT.out HS.out HO.out ?_; rw [← HW1.out]))
    (try simp only [Exit.inBlock, Exit.then])
    refine bodyPost_ret (HRT.out _ (by rfl)) (by rfl) ?_
    exact ⟨rfl, HB.out⟩
  · have HRT := Lib.hid (fun (tmps : Array Value) (hp : tmps.getD 2 undef = .pointer (some ⟨w.heap.size, 0, none⟩)) => doc_ret Try.f7 rfl tmps HE.out hp)
    have b0 := Lib.hid (doc_built1 rm)
    generalize (docL rm []).toArray = cs at HT HS HO HW1 b0 HRT ⊢
    rcases h1 with rfl | rfl
    all_goals
      go_enter Try.func7, Try.ntmps7
      go_wp2_with (first
        | (refine wpList_alloc_z rfl 30 rfl zeroL.toArray doc_zero ?_; rw [← HW0.out])
        | (refine wpList_build_is rfl 30 #[(0, .tmp 11)] rfl [(0, .int .i64 _)] (by simp [Act.eval]) cs b0.out ?_)
        | (refine wpList_store_mid rfl 30 (.tmp 2) (.tmp 12) rfl w.heap.size 0 cs rfl rfl HT.out HS.out HO.out ?_; rw [← HW1.out]))
      (try simp only [Exit.inBlock, Exit.then])
      refine bodyPost_ret (HRT.out _ (by rfl)) (by rfl) ?_
      exact ⟨rfl, HB.out⟩
end Go.Proofs.Ytgaoefhmjdhacaa
