/-
  The document's kids of nothing: a row of room for all bytes.
-/
import Derived.Test.YtahmalmpbdfnhaaDocSet
namespace Go.Proofs.Ytahmalmpbdfnhaa
open Go.RowKit

set_option maxRecDepth 100000 in
theorem doc_ret1 (fn : Func) {p : Tmp} (hf : fn.results = #[.cell p 28]) (tmps : Array Value) {w : World} {g room : Nat} {es : List Ent} (h : Lst w g (docL room es)) (hp : tmps.getD p undef = .pointer (some ⟨g, 0, none⟩)) :
    (results fn tmps).run Try.prog w = .ok (.agg (docL room es).toArray) w := by
  rw [results_cell1 hf, hp]
  simp [asAddr, Result.andThen, doc_load h]
set_option maxRecDepth 100000 in
theorem rknew_any (w : World) : Calls Try.prog 8 #[] w fun e w' => e = .returned (.agg (docL 256 []).toArray) ∧ Below w.heap.size w w' := by
  have HZ := Lib.hid (show Lst (w.alloc (.cells zeroL.toArray 28)) w.heap.size zeroL from Blk.new w _ _)
  have HT := Lib.hid (Lst.there HZ.out (o := 0) (n := (docL 256 []).toArray.size) (by rw [docA_size, zeroL_length]; exact Nat.le_refl _))
  have HS := Lib.hid (show (Try.prog.info? 28).map (·.size) = some (docL 256 []).toArray.size by rw [docA_size]; exact doc_size)
  have HO := Lib.hid (all_oneCell_toArray (docL_one (room := 256) (es := [])))
  have HE := Lib.hid (show Lst ((w.alloc (.cells zeroL.toArray 28)).setCells w.heap.size 0 (docL 256 []).toArray.toList) w.heap.size (docL 256 []) from doc_over HZ.out zeroL_length)
  have HB := Lib.hid (show Below w.heap.size w ((w.alloc (.cells zeroL.toArray 28)).setCells w.heap.size 0 (docL 256 []).toArray.toList) from
    ((Kept.of_below ((Below.refl _ _).alloc (Nat.le_refl _) _)).trans (Kept.setCells (· = w.heap.size) _ _ _ _ rfl)).below (Nat.le_refl _) (fun q hq => by omega))
  obtain ⟨W0, hW0⟩ : ∃ W0, W0 = w.alloc (.cells zeroL.toArray 28) := ⟨_, rfl⟩
  rw [← hW0] at HT HE HB
  have HW0 := Lib.hid hW0
  obtain ⟨W1, hW1⟩ : ∃ W1, W1 = W0.setCells w.heap.size 0 (docL 256 []).toArray.toList := ⟨_, rfl⟩
  rw [← hW1] at HE HB
  have HW1 := Lib.hid hW1
  clear hW0 hW1 HZ
  have HRT := Lib.hid (fun (tmps : Array Value) (hp : tmps.getD 0 undef = .pointer (some ⟨w.heap.size, 0, none⟩)) => doc_ret1 Try.f8 rfl tmps HE.out hp)
  have b0 := Lib.hid (show Try.prog.built 28 [(0, .int .i64 256)] = some (docL 256 []).toArray from doc_built1 256)
  generalize (docL 256 []).toArray = cs at HT HS HO HW1 b0 HRT ⊢
  go_enter Try.func8, Try.ntmps8
  go_wp2_with (first
    | (refine wpList_alloc_z rfl 28 rfl zeroL.toArray doc_zero ?_; rw [← HW0.out])
    | (refine wpList_build_is rfl 28 #[(0, .const (.int .i64 256))] rfl [(0, .int .i64 256)] (by simp [Act.eval]) cs b0.out ?_)
    | (refine wpList_store_mid rfl 28 (.tmp 0) (.tmp 1) rfl w.heap.size 0 cs rfl rfl HT.out HS.out HO.out ?_; rw [← HW1.out]))
  (try simp only [Exit.inBlock, Exit.then])
  refine bodyPost_ret (HRT.out _ (by rfl)) (by rfl) ?_
  exact ⟨rfl, HB.out⟩
end Go.Proofs.Ytahmalmpbdfnhaa
