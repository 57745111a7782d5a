/-
  What the document's Text answers: a schema's text, or an error.
-/
import Derived.Test.YtdpddkpfllioiaaDoorTupleTxt
import Derived.Deep.RegionWith
import Derived.BigRegion
namespace Go.Proofs.YtdpddkpfllioiaaDoor
open Go.RowKit

theorem one44 : (ByteArray.mk #[44]).size = 1 := rfl
theorem one45 : (ByteArray.mk #[45]).size = 1 := rfl
theorem bst_append2 (l : List UInt8) : bst l ++ (⟨#[44]⟩ : ByteArray) ++ (⟨#[45]⟩ : ByteArray) = bst (l ++ [44, 45]) := by
  have := bst_append (l ++ [44]) [45]
  rw [← bst_append l [44], List.append_assoc] at this
  exact this
theorem rtext_end {fs : List Fd} {k j : Nat} {f : Fd} {S : ByteArray} (hf : fs[k]? = some f) (hj : f.k = (j : Int) + 1) {a : List UInt8} (ha : a = (if 0 < k then [44] else []) ++ (if f.f then [45] else [])) (hS : S = bst (textT (fs.take k) ++ a)) : S ++ bst (nameL ((j : Int) + 1)) = bst (textT (fs.take (k + 1))) := by
  rw [hS, bst_append, text_snoc hf, ha, hj]
  simp
set_option maxRecDepth 100000 in
set_option maxHeartbeats 4000000 in
theorem rttext_any (A : Option Addr) (n c B : Nat) (fs : List Fd) (w : World) (ha : Fds w B A n fs) (hB : B ≤ w.heap.size) :
    Calls Tryd.prog 14 #[.slice A n c] w (SEPost w (txL fs) (chkL fs)) := by
  have HN := Lib.hid ha.length
  have HA := Lib.hid (fun V (h : Below w.heap.size w V) => (ha.more hB).below h)
  have HC := Lib.hid ((rtcheck_any A n c B fs w ha).mono fun _ _ h => (And.intro h.1 (h.2.below w.heap.size) : _ ∧ Below w.heap.size w _))
  clear ha
  generalize hCC : chkL fs = C at HC
  have HCC := Lib.hid hCC
  clear hCC
  by_cases hc : C = 0
  · subst hc
    have HE := Lib.hid (show txL fs = textT fs from if_pos HCC.out)
    have hn : n ≤ 255 := by have := (chkL_zero HCC.out).1; rw [HN.out] at this; exact this
    go_enter Tryd.func14, Tryd.ntmps14
    go_wp2_with fail
    (with_reducible refine HC.out.mono ?_)
    rintro e w1 ⟨rfl, hb1⟩
    have B1 := Lib.hid hb1
    clear hb1
    go_wp2
    go_loopw [5, 6] (fun s i wr => ∃ k : Nat, k ≤ n ∧ i = .int .i64 k ∧ s = .string (bst (textT (fs.take k))) ∧ Hid (Below w.heap.size w wr)) (fun _ i _ => n - (intOf i).toNat)
    case atStart => exact ⟨0, Nat.zero_le _, rfl, rfl, B1⟩
    case round =>
      obtain ⟨k, hk, rfl, rfl, HB⟩ := hrel
      have hts : (bst (textT (fs.take k))).size ≤ 2000 := by rw [bst_size]; have := join_length (fs.take k); rw [List.length_take] at this; omega
      by_cases h1 : k < n
      · obtain ⟨ad, f, rfl, hlt, hf, c0, c1⟩ := (HA.out _ HB.out).at_ h1
        have HF := Lib.hid hf
        have hsz := HB.out.size
        obtain ⟨j, hj⟩ : ∃ j : Nat, f.k = (j : Int) + 1 := ⟨(f.k - 1).toNat, by have := (chkL_zero HCC.out).2 f (List.mem_of_getElem? hf); omega⟩
        have hj10 : j < 10 := by have := (chkL_zero HCC.out).2 f (List.mem_of_getElem? hf); omega
        have HKK := Lib.hid hj
        have hns : (bst (nameL ((j : Int) + 1))).size ≤ 4 := by rw [bst_size]; exact nameL_length _
        have hb2 : (ad.add (k * 2)).block < wr.heap.size := by rw [block_of_add]; omega
        rw [hj] at c0
        clear hf hj
        by_cases h0 : 0 < k
        · go_wp2_with fail
          · rename_i hff
            have hSs : (bst (textT (fs.take k)) ++ (⟨#[44]⟩ : ByteArray) ++ (⟨#[45]⟩ : ByteArray)).size ≤ 2002 := by (try simp only [ByteArray.size_append]); have := one44; have := one45; omega
            have HS := Lib.hid (show bst (textT (fs.take k)) ++ (⟨#[44]⟩ : ByteArray) ++ (⟨#[45]⟩ : ByteArray) = bst (textT (fs.take k) ++ [44, 45]) from by first | exact bst_append2 _ | exact bst_append _ _ | rw [List.append_nil])
            generalize bst (textT (fs.take k)) ++ (⟨#[44]⟩ : ByteArray) ++ (⟨#[45]⟩ : ByteArray) = S at hSs HS
            have d1 : (k : Int) < (n : Int) := by omega
            have d2 : IntKind.i64.wrap (j : Int) = (j : Int) := IntWalk.i64_in _ (by omega)
            have d3 : (j : Int) < 10 := by omega
            have d4 : ¬ 9223372036854775807 < S.size + (bst (nameL ((j : Int) + 1))).size := by omega
            go_region_with (go_at_call 32; refine (names_any _).mono ?_; rintro e w2 ⟨g, rfl, hg, hbl, h2⟩; have hnm := nm_cell hbl hj10; have c2 : w2.cell? (ad.add (k * 2)) = some (.int .i64 ((j : Int) + 1)) := (h2.cell (p := ad.add (k * 2)) hb2).trans c0)
            all_goals (
              have Z2 := Lib.hid (HB.out.drew.trans (h2.mono HB.out.size))
              clear h2 hbl hnm c0 c1
              go_wp2
              exact ⟨⟨k + 1, by omega, by go_num, by rw [rtext_end HF.out HKK.out (a := [44, 45]) (by simp [h0, hff]) HS.out], Z2⟩, by simp [intOf]; omega⟩)
          · rename_i hff
            have hSs : (bst (textT (fs.take k)) ++ (⟨#[44]⟩ : ByteArray)).size ≤ 2002 := by (try simp only [ByteArray.size_append]); have := one44; have := one45; omega
            have HS := Lib.hid (show bst (textT (fs.take k)) ++ (⟨#[44]⟩ : ByteArray) = bst (textT (fs.take k) ++ [44]) from by first | exact bst_append2 _ | exact bst_append _ _ | rw [List.append_nil])
            generalize bst (textT (fs.take k)) ++ (⟨#[44]⟩ : ByteArray) = S at hSs HS
            have d1 : (k : Int) < (n : Int) := by omega
            have d2 : IntKind.i64.wrap (j : Int) = (j : Int) := IntWalk.i64_in _ (by omega)
            have d3 : (j : Int) < 10 := by omega
            have d4 : ¬ 9223372036854775807 < S.size + (bst (nameL ((j : Int) + 1))).size := by omega
            go_region_with (go_at_call 32; refine (names_any _).mono ?_; rintro e w2 ⟨g, rfl, hg, hbl, h2⟩; have hnm := nm_cell hbl hj10; have c2 : w2.cell? (ad.add (k * 2)) = some (.int .i64 ((j : Int) + 1)) := (h2.cell (p := ad.add (k * 2)) hb2).trans c0)
            all_goals (
              have Z2 := Lib.hid (HB.out.drew.trans (h2.mono HB.out.size))
              clear h2 hbl hnm c0 c1
              go_wp2
              exact ⟨⟨k + 1, by omega, by go_num, by rw [rtext_end HF.out HKK.out (a := [44]) (by simp [h0, hff]) HS.out], Z2⟩, by simp [intOf]; omega⟩)
        · go_wp2_with fail
          · rename_i hff
            have hSs : (bst (textT (fs.take k)) ++ (⟨#[45]⟩ : ByteArray)).size ≤ 2002 := by (try simp only [ByteArray.size_append]); have := one44; have := one45; omega
            have HS := Lib.hid (show bst (textT (fs.take k)) ++ (⟨#[45]⟩ : ByteArray) = bst (textT (fs.take k) ++ [45]) from by first | exact bst_append2 _ | exact bst_append _ _ | rw [List.append_nil])
            generalize bst (textT (fs.take k)) ++ (⟨#[45]⟩ : ByteArray) = S at hSs HS
            have d1 : (k : Int) < (n : Int) := by omega
            have d2 : IntKind.i64.wrap (j : Int) = (j : Int) := IntWalk.i64_in _ (by omega)
            have d3 : (j : Int) < 10 := by omega
            have d4 : ¬ 9223372036854775807 < S.size + (bst (nameL ((j : Int) + 1))).size := by omega
            go_region_with (go_at_call 32; refine (names_any _).mono ?_; rintro e w2 ⟨g, rfl, hg, hbl, h2⟩; have hnm := nm_cell hbl hj10; have c2 : w2.cell? (ad.add (k * 2)) = some (.int .i64 ((j : Int) + 1)) := (h2.cell (p := ad.add (k * 2)) hb2).trans c0)
            all_goals (
              have Z2 := Lib.hid (HB.out.drew.trans (h2.mono HB.out.size))
              clear h2 hbl hnm c0 c1
              go_wp2
              exact ⟨⟨k + 1, by omega, by go_num, by rw [rtext_end HF.out HKK.out (a := [45]) (by simp [h0, hff]) HS.out], Z2⟩, by simp [intOf]; omega⟩)
          · rename_i hff
            have hSs : (bst (textT (fs.take k))).size ≤ 2002 := by (try simp only [ByteArray.size_append]); have := one44; have := one45; omega
            have HS := Lib.hid (show bst (textT (fs.take k)) = bst (textT (fs.take k) ++ []) from by first | exact bst_append2 _ | exact bst_append _ _ | rw [List.append_nil])
            generalize bst (textT (fs.take k)) = S at hSs HS
            have d1 : (k : Int) < (n : Int) := by omega
            have d2 : IntKind.i64.wrap (j : Int) = (j : Int) := IntWalk.i64_in _ (by omega)
            have d3 : (j : Int) < 10 := by omega
            have d4 : ¬ 9223372036854775807 < S.size + (bst (nameL ((j : Int) + 1))).size := by omega
            go_region_with (go_at_call 32; refine (names_any _).mono ?_; rintro e w2 ⟨g, rfl, hg, hbl, h2⟩; have hnm := nm_cell hbl hj10; have c2 : w2.cell? (ad.add (k * 2)) = some (.int .i64 ((j : Int) + 1)) := (h2.cell (p := ad.add (k * 2)) hb2).trans c0)
            all_goals (
              have Z2 := Lib.hid (HB.out.drew.trans (h2.mono HB.out.size))
              clear h2 hbl hnm c0 c1
              go_wp2
              exact ⟨⟨k + 1, by omega, by go_num, by rw [rtext_end HF.out HKK.out (a := []) (by simp [h0, hff]) HS.out], Z2⟩, by simp [intOf]; omega⟩)
      · obtain rfl : k = n := by omega
        go_wp2
        go_ret2
        exact ⟨by rw [HE.out, List.take_of_length_le (by rw [HN.out]; exact Nat.le_refl _)]; rfl, HB.out⟩
  · have HE := Lib.hid (show txL fs = [] from if_neg (by rw [HCC.out]; exact hc))
    go_enter Tryd.func14, Tryd.ntmps14
    go_wp2_with fail
    (with_reducible refine HC.out.mono ?_)
    rintro e w1 ⟨rfl, hb1⟩
    have B1 := Lib.hid hb1
    clear hb1
    go_wp2
    go_ret2
    exact ⟨by rw [HE.out]; rfl, B1.out⟩
end Go.Proofs.YtdpddkpfllioiaaDoor
