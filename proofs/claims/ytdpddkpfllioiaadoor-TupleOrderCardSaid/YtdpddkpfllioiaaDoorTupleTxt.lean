/-
  What tuple.Text answers: a schema's text, or an error.
-/
import Derived.Test.YtdpddkpfllioiaaDoorTupleNam
namespace Go.Proofs.YtdpddkpfllioiaaDoor
open Go.RowKit

/-- What is left where a text and an error are handed back. -/
def SEPost (w : World) (l : List UInt8) (er : Int) (e : Ending) (w' : World) : Prop := e = .returned (.tuple #[sv l, .int .i64 er]) ∧ Below w.heap.size w w'
theorem info_str : (Tryd.prog.info? 9).map (fun i => (i.zero, i.size, i.bytes)) = some (some (.string ⟨#[]⟩), 1, 16) := by kernel_rfl
theorem make_strs (w : World) {n : Nat} (hn : n ≤ 1000) : (Instr.makeSlice 72 (.int .i64 (n : Int)) (.int .i64 (n : Int))).run Tryd.prog w = .ok (.slice (some ⟨w.heap.size, 0, none⟩) n n) (w.alloc (.cells (Array.replicate n (sv [])) 9)) := by
  obtain ⟨i0, hi0, hz0, hz1, hz2⟩ := info_parts info_str
  have h := run_make (P := Tryd.prog) w 72 9 i0 _ Tryd.underlying72 hi0 hz0 .i64 .i64 (n : Int) (n : Int) (by omega) (Int.le_refl _) (by rw [hz2]; omega) (by omega)
  rw [Int.toNat_natCast, hz1, Nat.mul_one] at h
  have e : Array.replicate n (sv []) = madeCells (Value.string ⟨#[]⟩).cells n := by
    apply Array.ext'
    rw [show (Value.string ⟨#[]⟩).cells = #[.string ⟨#[]⟩] from rfl, toList_madeCells_one]
    simp [sv, bst]
  rw [e]
  exact h
theorem parts_step {fs : List Fd} {n k : Nat} {f : Fd} (hl : fs.length = n) (hf : fs[k]? = some f) : ((((fs.take k).map fdL ++ List.replicate (n - k) []).map sv).toArray).setIfInBounds k (sv (fdL f)) = ((((fs.take (k + 1)).map fdL ++ List.replicate (n - (k + 1)) []).map sv).toArray) := by
  have hk : k < n := by have := (List.getElem?_eq_some_iff.1 hf).1; omega
  have e : n - k = (n - (k + 1)) + 1 := by omega
  apply Array.ext'
  rw [Array.toList_setIfInBounds, take_step hf]
  simp only [List.map_append, List.map_cons, List.map_nil]
  rw [e, List.replicate_succ, List.map_cons]
  have hlen : (List.map sv (List.map fdL (List.take k fs))).length = k := by simp; omega
  rw [List.set_append_right _ _ (by omega), hlen, Nat.sub_self, List.set_cons_zero, List.append_assoc]
  rfl
theorem parts_there {fs : List Fd} {n k : Nat} (hl : fs.length = n) (hk : k < n) : (((fs.take k).map fdL ++ List.replicate (n - k) []).map sv).toArray[k]? = some (sv []) := by
  have e : n - k = (n - (k + 1)) + 1 := by omega
  rw [List.getElem?_toArray, List.getElem?_map, List.getElem?_append_right (by simp; omega), e, List.replicate_succ]
  have : k - (List.map fdL (List.take k fs)).length = 0 := by simp; omega
  rw [this]
  rfl

set_option maxRecDepth 100000 in
set_option maxHeartbeats 4000000 in
theorem ttext_any (A : Option Addr) (n c B : Nat) (fs : List Fd) (w : World) (hT : Nam w) (ha : Fds w B A n fs) (hB : B ≤ w.heap.size) :
    Calls Tryd.prog 13 #[.slice A n c] w (SEPost w (txL fs) (chkL fs)) := by
  have HN := Lib.hid ha.length
  have HA := Lib.hid (fun V (h : Below w.heap.size w V) => (ha.more hB).below h)
  have HT := Lib.hid (fun V (h : Below w.heap.size w V) => hT.below h)
  have HC := Lib.hid (tcheck_any A n c B fs w ha hB)
  clear ha hT
  generalize hCC : chkL fs = C at HC
  have HCC := Lib.hid hCC
  clear hCC
  by_cases hc : C = 0
  · subst hc
    have HE := Lib.hid (show txL fs = textT fs from if_pos HCC.out)
    have hn : n ≤ 255 := by have := (chkL_zero HCC.out).1; rw [HN.out] at this; exact this
    have hmk := fun W => make_strs W (n := n) (by omega)
    go_enter Tryd.func13, Tryd.ntmps13
    go_wp2_with fail
    (with_reducible refine HC.out.mono ?_)
    rintro e w1 ⟨rfl, hb1⟩
    have B1 := Lib.hid hb1
    clear hb1
    go_wp2
    clear hmk
    go_loopw [18] (fun i wr => ∃ k : Nat, k ≤ n ∧ i = .int .i64 k ∧ Hid (Blk wr w1.heap.size (((fs.take k).map fdL ++ List.replicate (n - k) []).map sv).toArray) ∧ Hid (Below w.heap.size w wr)) (fun i _ => n - (intOf i).toNat)
    case atStart => exact ⟨0, Nat.zero_le _, rfl, by have := Blk.new w1 9 (Array.replicate n (sv [])); simpa [Hid] using this, B1.out.alloc B1.out.size _⟩
    case round =>
      obtain ⟨k, hk, rfl, HR, HB⟩ := hrel
      by_cases h1 : k < n
      · obtain ⟨ad, f, rfl, hlt, hf, c0, c1⟩ := (HA.out _ HB.out).at_ h1
        have HF := Lib.hid hf
        have hsz := HB.out.size
        obtain ⟨kk, hkk⟩ : ∃ kk : Nat, f.k = kk := ⟨f.k.toNat, by have := (chkL_zero HCC.out).2 f (List.mem_of_getElem? hf); omega⟩
        have hk10 : 1 ≤ kk ∧ kk ≤ 10 := by have := (chkL_zero HCC.out).2 f (List.mem_of_getElem? hf); omega
        have HKK := Lib.hid hkk
        generalize hW : wr.alloc (.cells #[.int .i64 f.k, .bool f.f] 58) = W
        have BW := Lib.hid (show Below wr.heap.size wr W from by subst hW; exact (Below.refl _ _).alloc (Nat.le_refl _) _)
        have HW := Lib.hid (show Below w.heap.size w W from HB.out.trans (BW.out.mono hsz))
        have hF : Two W wr.heap.size (.int .i64 f.k) (.bool f.f) := by subst hW; exact Two.new _ _ _ _
        have hx0 := hF.k0
        have hx1 := hF.k1
        have hnm := (HT.out _ HW.out).2 kk hk10.2
        have HRW := Lib.hid (HR.out.below BW.out HR.out.lt)
        have hp : W.cell? ⟨w1.heap.size, k, none⟩ = some (sv []) := (HRW.out.cell k).trans (parts_there HN.out h1)
        have hpf := HRW.out.fz
        have hlw : w1.heap.size < wr.heap.size := HR.out.lt
        have hne : w1.heap.size ≠ wr.heap.size := by omega
        have HLW := Lib.hid hlw
        clear hf hF hlw
        rw [hkk] at hx0 hW
        rw [hkk] at c0
        have hns : (bst (nameL (kk : Int))).size ≤ 4 := by rw [bst_size]; exact nameL_length _
        go_wp2
        · rename_i hff
          refine ⟨⟨k + 1, by omega, by go_num, ?_, (HW.out.setCell (by have := B1.out.size; exact this) _).setCell (by have := B1.out.size; exact this) _⟩, by simp [intOf]; omega⟩
          have q := (HRW.out.set_ k (.string (bst (nameL (kk : Int))))).set_ k (.string (⟨#[45]⟩ ++ bst (nameL (kk : Int))))
          rw [Array.setIfInBounds_setIfInBounds, show (⟨#[45]⟩ : ByteArray) ++ bst (nameL (kk : Int)) = bst (fdL f) from by unfold fdL; rw [hff, HKK.out]; exact bst_append [45] _, parts_step HN.out HF.out] at q
          have e : (⟨#[45]⟩ : ByteArray) ++ bst (nameL (kk : Int)) = bst (fdL f) := by unfold fdL; rw [hff, HKK.out]; exact bst_append [45] _
          rw [e]
          exact q
        · rename_i hff
          refine ⟨⟨k + 1, by omega, by go_num, ?_, HW.out.setCell (by have := B1.out.size; exact this) _⟩, by simp [intOf]; omega⟩
          have q := HRW.out.set_ k (.string (bst (nameL (kk : Int))))
          have e : nameL (kk : Int) = fdL f := by unfold fdL; rw [hff, HKK.out]; rfl
          rw [e] at q ⊢
          rw [parts_step HN.out HF.out] at q
          exact q
      · obtain rfl : k = n := by omega
        have q := HR.out
        rw [Nat.sub_self, List.replicate_zero, List.append_nil, List.take_of_length_le (by rw [HN.out]; exact Nat.le_refl _)] at q
        have Q := Lib.hid q
        have HJ := Lib.hid (join_any w1.heap.size k (fs.map fdL) wr (by rw [List.length_map]; exact HN.out) q (by omega) (by have := join_length fs; rw [HN.out] at this; show (textT fs).length ≤ _; omega))
        clear q
        go_wp2_with fail
        (with_reducible refine HJ.out.mono ?_)
        rintro e w2 ⟨rfl, h2⟩
        have B2 := Lib.hid (HB.out.trans (h2.mono HB.out.size))
        clear h2
        go_wp2
        go_ret2
        exact ⟨by rw [HE.out]; rfl, B2.out⟩
  · have HE := Lib.hid (show txL fs = [] from if_neg (by rw [HCC.out]; exact hc))
    go_enter Tryd.func13, Tryd.ntmps13
    go_wp2_with fail
    (with_reducible refine HC.out.mono ?_)
    rintro e w1 ⟨rfl, hb1⟩
    have B1 := Lib.hid hb1
    clear hb1
    go_wp2
    go_ret2
    exact ⟨by rw [HE.out]; rfl, B1.out⟩
end Go.Proofs.YtdpddkpfllioiaaDoor
