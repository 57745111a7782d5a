/-
  The document's row: New, Len, Set, Drop.
-/
import Derived.Test.YtahmalmpbdfnhaaDocPure
import Derived.Test.YtahmalmpbdfnhaaSlIns
import Derived.Test.YtahmalmpbdfnhaaSmRead
import Derived.Laws.Tables
import Derived.Laws.ResultCell
import Derived.Deep.RegionHeld3
namespace Go.Proofs.Ytahmalmpbdfnhaa
open Go.RowKit

/-- Nothing is held, and there is no room. -/
def zeroL : List Value := .int .i64 0 :: (List.replicate 256 (.bool false) ++ List.replicate 256 (.int .i64 0))
theorem zeroL_length : zeroL.length = 513 := by unfold zeroL; rw [List.length_cons, List.length_append, List.length_replicate, List.length_replicate]
set_option maxRecDepth 100000 in
theorem doc_size : (Try.prog.info? 28).map (·.size) = some 513 := by kernel_rfl
set_option maxRecDepth 100000 in
theorem doc_zero : (Try.prog.info? 28).map (·.zero) = some (some (.agg zeroL.toArray)) := by kernel_rfl
set_option maxRecDepth 100000 in
theorem doc_built0 : Try.prog.built 28 [] = some (docL 0 []).toArray := by kernel_rfl
set_option maxRecDepth 100000 in
theorem doc_built1 (room : Nat) : Try.prog.built 28 [(0, .int .i64 (room : Int))] = some (docL room []).toArray := by kernel_rfl

section
variable {room : Nat} {es : List Ent}
/-- The document's row by value, in a block of its own. -/
theorem doc_box (w : World) : ∃ W, w.alloc (.cells (docL room es).toArray 28) = W ∧ Lst W w.heap.size (docL room es) ∧ Below w.heap.size w W ∧ W.heap.size = w.heap.size + 1 :=
  ⟨_, rfl, Blk.new _ _ _, (Below.refl _ _).alloc (Nat.le_refl _) _, by simp⟩

set_option maxRecDepth 100000 in
theorem rlen_any (h : Up es) (w : World) : Calls Try.prog 17 #[.agg (docL room es).toArray] w fun e w' => e = .returned (.int .i64 (es.length : Int)) ∧ Below w.heap.size w w' := by
  obtain ⟨W, hW, hl, hb, hs⟩ := doc_box (room := room) (es := es) w
  have HC := Lib.hid (fun i (hi : i < 256) => show W.cell? ⟨w.heap.size, 1 + i, none⟩ = some (.bool (hasE es i)) by rw [Lst.at_ hl]; exact docL_has hi)
  have HB := Lib.hid hb
  have HU := Lib.hid h
  have h16 : es.length ≤ 256 := by rw [← pos_all es]; exact pos256 h
  clear hl hb hs h
  generalize (docL room es).toArray = cs at hW ⊢
  go_enter Try.func17, Try.ntmps17
  go_wp2_with fail
  try rw [hW]
  clear hW
  go_loopw [3, 4] (fun s3 s4 wr => ∃ k : Nat, k ≤ 256 ∧ s4 = .int .i64 k ∧ s3 = .int .i64 (pos es k : Nat) ∧ Still W wr) (fun _ s4 _ => 256 - (intOf s4).toNat)
  case atStart => exact ⟨0, by omega, rfl, by rw [pos_zero]; rfl, Still.refl _⟩
  case round =>
    obtain ⟨k, hk, rfl, rfl, q, rfl⟩ := hrel
    by_cases h1 : k < 256
    · have hc := HC.out k h1
      have hp : pos es k ≤ 256 := Nat.le_trans (pos_le _ _) h16
      cases hh : hasE es k with
      | true =>
        rw [hh] at hc
        have E := Lib.hid (pos_yes HU.out hh)
        clear hh
        generalize hpp : pos es k = p at hp E
        clear hpp
        have ew : IntKind.i64.wrap ((p : Int) + 1) = (p : Int) + 1 := by rw [IntKind.wrap_i64]; omega
        go_wp2
        exact ⟨⟨k + 1, by omega, by go_num, by rw [E.out]; go_num, ⟨_, rfl⟩⟩, by simp [intOf]; omega⟩
      | false =>
        rw [hh] at hc
        have E := Lib.hid (pos_not HU.out hh)
        clear hh
        go_wp2
        exact ⟨⟨k + 1, by omega, by go_num, by rw [E.out], ⟨_, rfl⟩⟩, by simp [intOf]; omega⟩
    · obtain rfl : k = 256 := by omega
      have E := Lib.hid (pos_all es)
      go_wp2
      go_ret
      exact ⟨by rw [E.out]; rfl, below_drewN HB.out q⟩

set_option maxRecDepth 100000 in
theorem rnext_any (h : Up es) (a : Int) (w : World) : Calls Try.prog 25 #[.agg (docL room es).toArray, .int .i64 a] w fun e w' => e = .returned (entV (nextE es a)) ∧ Below w.heap.size w w' := by
  obtain ⟨W, hW, hl, hb, hs⟩ := doc_box (room := room) (es := es) w
  have HC := Lib.hid (fun i (hi : i < 256) => show W.cell? ⟨w.heap.size, 1 + i, none⟩ = some (.bool (hasE es i)) ∧ W.cell? ⟨w.heap.size, 257 + i, none⟩ = some (.int .i64 (getE es i)) by rw [Lst.at_ hl, Lst.at_ hl]; exact ⟨docL_has hi, docL_val hi⟩)
  have HB := Lib.hid hb
  have HU := Lib.hid h
  have H0 := Lib.hid (show ∃ c : Nat, max a 0 = (c : Int) ∧ ((256 ≤ c ∧ nextE es a = none) ∨ (c < 256 ∧ nx es c = nextE es a)) by
    refine ⟨a.toNat, by omega, ?_⟩
    rw [next_nx]
    by_cases q : 255 < a
    · left; exact ⟨by omega, by rw [if_pos q]⟩
    · right; exact ⟨by omega, by rw [if_neg q]⟩)
  clear hl hb hs h
  generalize (docL room es).toArray = cs at hW ⊢
  generalize nextE es a = ne at H0 ⊢
  by_cases hz : a ≤ 0
  all_goals
    go_enter Try.func25, Try.ntmps25
    go_wp2_with fail
  all_goals
    try rw [hW]
    clear hW
    go_loopw [7] (fun s7 wr => ∃ c : Nat, s7 = .int .i64 c ∧ Hid ((256 ≤ c ∧ ne = none) ∨ (c < 256 ∧ nx es c = ne)) ∧ Still W wr) (fun s7 _ => 256 - (intOf s7).toNat)
    case atStart =>
      obtain ⟨c, hc, hn⟩ := H0.out
      exact ⟨c, by congr 1; omega, hn, Still.refl _⟩
    case round =>
      obtain ⟨c, rfl, HN, q, rfl⟩ := hrel
      by_cases h1 : c < 256
      · obtain ⟨hc1, hc2⟩ := HC.out c h1
        have hn : nx es c = ne := by rcases HN.out with q | q; omega; exact q.2
        cases hh : hasE es c with
        | true =>
          rw [hh] at hc1
          have E := Lib.hid (nx_yes hh)
          rw [hn] at E
          clear hh hn
          have ew : IntKind.u8.wrap (c : Int) = (c : Int) := by rw [IntKind.wrap_u8]; omega
          go_wp2_with fail
          go_quiet (fail)
          go_wp2
          go_ret3
          obtain ⟨e, he, h1, h2⟩ := E.out
          refine ⟨?_, below_drewN (below_drewN HB.out _) _⟩
          subst he
          show _ = Ending.returned (.tuple #[.int .u8 ((e.1.toNat : Nat) : Int), .int .i64 e.2, .bool true])
          rw [h1, h2]
          rfl
        | false =>
          rw [hh] at hc1
          have E := Lib.hid (nx_not HU.out hh)
          clear hh hc2
          go_wp2
          refine ⟨⟨c + 1, by go_num, ?_, ⟨_, rfl⟩⟩, by simp [intOf]; omega⟩
          by_cases q2 : c + 1 = 256
          · refine Lib.hid (.inl ⟨by omega, ?_⟩)
            rw [← hn, ← E.out, q2]; exact nx_all es
          · exact Lib.hid (.inr ⟨by omega, by rw [E.out, hn]⟩)
      · have hn : ne = none := by rcases HN.out with q | q; exact q.2; omega
        subst hn
        go_wp2
        go_ret3
        exact ⟨rfl, below_drewN HB.out _⟩

set_option maxRecDepth 100000 in
theorem rprev_any (h : Up es) (a : Int) (w : World) : Calls Try.prog 26 #[.agg (docL room es).toArray, .int .i64 a] w fun e w' => e = .returned (entV (prevE es a)) ∧ Below w.heap.size w w' := by
  obtain ⟨W, hW, hl, hb, hs⟩ := doc_box (room := room) (es := es) w
  have HC := Lib.hid (fun i (hi : i < 256) => show W.cell? ⟨w.heap.size, 1 + i, none⟩ = some (.bool (hasE es i)) ∧ W.cell? ⟨w.heap.size, 257 + i, none⟩ = some (.int .i64 (getE es i)) by rw [Lst.at_ hl, Lst.at_ hl]; exact ⟨docL_has hi, docL_val hi⟩)
  have HB := Lib.hid hb
  have HU := Lib.hid h
  have H0 := Lib.hid (show (min a 255 < 0 ∧ prevE es a = none) ∨ (∃ c : Nat, min a 255 = (c : Int) ∧ c < 256 ∧ pv es (c + 1) = prevE es a) by
    rw [prev_pv h]
    by_cases q : a < 0
    · left; exact ⟨by omega, by rw [if_pos q]⟩
    · right; exact ⟨(min a 255).toNat, by omega, by omega, by rw [if_neg q]⟩)
  clear hl hb hs h
  generalize (docL room es).toArray = cs at hW ⊢
  generalize prevE es a = ne at H0 ⊢
  by_cases hz : a ≤ 255
  all_goals
    go_enter Try.func26, Try.ntmps26
    go_wp2_with fail
  all_goals
    try rw [hW]
    clear hW
    go_loopw [7] (fun s7 wr => ∃ z : Int, s7 = .int .i64 z ∧ Hid ((z < 0 ∧ ne = none) ∨ (∃ c : Nat, z = (c : Int) ∧ c < 256 ∧ pv es (c + 1) = ne)) ∧ Still W wr) (fun s7 _ => (intOf s7 + 1).toNat)
    case atStart =>
      rcases H0.out with ⟨h1, h2⟩ | ⟨c, h1, h2, h3⟩
      · exact ⟨_, rfl, Lib.hid (.inl ⟨by omega, h2⟩), Still.refl _⟩
      · exact ⟨_, rfl, Lib.hid (.inr ⟨c, by omega, h2, h3⟩), Still.refl _⟩
    case round =>
      obtain ⟨z, rfl, HN, q, rfl⟩ := hrel
      rcases HN.out with ⟨hz0, hn⟩ | ⟨c, rfl, h1, hn⟩
      · subst hn
        go_wp2
        go_ret3
        exact ⟨rfl, below_drewN HB.out _⟩
      · obtain ⟨hc1, hc2⟩ := HC.out c h1
        clear HN
        cases hh : hasE es c with
        | true =>
          rw [hh] at hc1
          have E := Lib.hid (pv_yes HU.out hh)
          rw [hn] at E
          clear hh hn
          have ew : IntKind.u8.wrap (c : Int) = (c : Int) := by rw [IntKind.wrap_u8]; omega
          go_wp2_with fail
          go_quiet (fail)
          go_wp2
          go_ret3
          obtain ⟨e, he, h1, h2⟩ := E.out
          refine ⟨?_, below_drewN (below_drewN HB.out _) _⟩
          subst he
          show _ = Ending.returned (.tuple #[.int .u8 ((e.1.toNat : Nat) : Int), .int .i64 e.2, .bool true])
          rw [h1, h2]
          rfl
        | false =>
          rw [hh] at hc1
          have E := Lib.hid (pv_not HU.out hh)
          have HNn := Lib.hid hn
          have ew : IntKind.i64.wrap ((c : Int) - 1) = (c : Int) - 1 := by rw [IntKind.wrap_i64]; omega
          clear hh hc2 hn
          go_wp2
          refine ⟨⟨(c : Int) - 1, rfl, ?_, ⟨_, rfl⟩⟩, by simp [intOf]⟩
          by_cases q2 : c = 0
          · subst q2
            refine Lib.hid (.inl ⟨by omega, ?_⟩)
            rw [← HNn.out, E.out]; exact pv_zero es
          · refine Lib.hid (.inr ⟨c - 1, by omega, by omega, ?_⟩)
            rw [← HNn.out, E.out, show c - 1 + 1 = c by omega]
end
end Go.Proofs.Ytahmalmpbdfnhaa
