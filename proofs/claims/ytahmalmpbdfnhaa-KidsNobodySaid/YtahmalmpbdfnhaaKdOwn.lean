/-
  Kids that lie in blocks from B on, none of them in N: what is asked of them, what is done with them; a law's end.
-/
import Derived.Test.YtahmalmpbdfnhaaKdCopy
namespace Go.Proofs.Ytahmalmpbdfnhaa
open Go.RowKit

/-- Kids in blocks from B on, what stands for them not in N. -/
def KOwn (B : Nat) (N : Nat → Prop) (w : World) (g : Nat) (es : List Ent) : Prop := ∃ o, Kr w g o (kindN es.length) es ∧ ∀ i, o.D i → B ≤ i ∧ ¬ N i
section
variable {w w' : World} {g B : Nat} {es es' : List Ent} {N N' : Nat → Prop}
theorem KOwn.kept (h : KOwn B N w g es) {D : Nat → Prop} (hk : Kept D w w') (hg : ¬ D g) (hD : ∀ i, D i → i < B ∨ N i) : KOwn B N w' g es := by
  obtain ⟨o, h1, h2⟩ := h
  refine ⟨o, h1.kept hk (fun i hi => ?_), h2⟩
  rcases hi with rfl | hi
  · exact hg
  · intro q
    have := h2 i hi
    rcases hD i q with q | q
    · omega
    · exact this.2 q
theorem KOwn.below (h : KOwn B N w g es) (hk : Below w.heap.size w w') : KOwn B N w' g es := h.kept (D := fun _ => False) (Kept.of_below hk) (fun q => q) (fun _ q => q.elim)
theorem KOwn.still (h : KOwn B N w g es) (hs : Still w w') : KOwn B N w' g es := by
  obtain ⟨o, h1, h2⟩ := h; exact ⟨o, h1.still hs, h2⟩
theorem KOwn.drewN (h : KOwn B N w g es) (n : Nat) : KOwn B N (w.drewN n) g es := h.still ⟨n, rfl⟩
/-- One block more that is none of theirs, since it is new. -/
theorem KOwn.more (h : KOwn B N w g es) {k : Nat} (hk : w.heap.size ≤ k) : KOwn B (fun i => N i ∨ i = k) w g es := by
  obtain ⟨o, h1, h2⟩ := h
  refine ⟨o, h1, fun i hi => ⟨(h2 i hi).1, fun q => ?_⟩⟩
  rcases q with q | q
  · exact (h2 i hi).2 q
  · have := h1.lt (.inr hi); omega
theorem KOwn.fewer (h : KOwn B N w g es) (hN : ∀ i, N' i → N i) : KOwn B N' w g es := by
  obtain ⟨o, h1, h2⟩ := h; exact ⟨o, h1, fun i hi => ⟨(h2 i hi).1, fun q => (h2 i hi).2 (hN i q)⟩⟩
theorem KOwn.up (h : KOwn B N w g es) : Up es := by obtain ⟨o, h1, _⟩ := h; exact h1.is.up
theorem KOwn.lt (h : KOwn B N w g es) : g < w.heap.size := by obtain ⟨o, h1, _⟩ := h; exact h1.lt0
theorem KOwn.few (h : KOwn B N w g es) : es.length ≤ 256 := by obtain ⟨o, h1, _⟩ := h; have := h1.is.few; omega
set_option maxRecDepth 100000 in
/-- What is done with them: what is below B, and what is in N, stays. -/
theorem KOwn.call (h : KOwn B N w g es) (hB : B ≤ w.heap.size) (hN : ∀ i, N i → i < w.heap.size) {f : FuncId} {args : Array Value} {n : Int}
    (hc : ∀ o, Kr w g o (kindN es.length) es → Calls Try.prog f args w fun e w' => e = .returned (.int .i64 n) ∧ KdPost w w' g o es') :
    Calls Try.prog f args w fun e w' => e = .returned (.int .i64 n) ∧ KOwn B N w' g es' ∧ Kept (fun i => i = g ∨ B ≤ i ∧ ¬ N i) w w' := by
  obtain ⟨o, h1, h2⟩ := h
  refine (hc o h1).mono ?_
  rintro e w' ⟨rfl, o', k1, k2, k3⟩
  refine ⟨rfl, ⟨o', k1, fun i hi => ?_⟩, k3.mono (fun i q => ?_)⟩
  · rcases k2 i hi with q | q
    · exact h2 i q
    · exact ⟨by omega, fun q' => by have := hN i q'; omega⟩
  · rcases q with q | q
    · exact .inl q
    · exact .inr (h2 i q)
set_option maxRecDepth 100000 in
theorem KOwn.set_ (h : KOwn B N w g es) (hB : B ≤ w.heap.size) (hN : ∀ i, N i → i < w.heap.size) (b : UInt8) (x : Th) (z : Int) (hz : z = (b.toNat : Int)) :
    Calls Try.prog 12 #[.pointer (some ⟨g, 0, none⟩), .int .u8 z, .int .i64 x] w fun e w' => e = .returned (.int .i64 0) ∧ KOwn B N w' g (setE es b x) ∧ Kept (fun i => i = g ∨ B ≤ i ∧ ¬ N i) w w' :=
  h.call hB hN (fun _ hk => kset_any hk b x z hz)
set_option maxRecDepth 100000 in
theorem KOwn.drop_ (h : KOwn B N w g es) (hB : B ≤ w.heap.size) (hN : ∀ i, N i → i < w.heap.size) (b : UInt8) (z : Int) (hz : z = (b.toNat : Int)) :
    Calls Try.prog 10 #[.pointer (some ⟨g, 0, none⟩), .int .u8 z] w fun e w' => e = .returned (.int .i64 (dropN es b)) ∧ KOwn B N w' g (dropE es b) ∧ Kept (fun i => i = g ∨ B ≤ i ∧ ¬ N i) w w' :=
  h.call hB hN (fun _ hk => kdrop_any hk b z hz)
set_option maxRecDepth 100000 in
theorem KOwn.get_ (h : KOwn B N w g es) (b : UInt8) (z : Int) (hz : z = (b.toNat : Int)) : Calls Try.prog 14 #[.pointer (some ⟨g, 0, none⟩), .int .u8 z] w fun e w' => e = .returned (.tuple #[.int .i64 (getE es b.toNat), .bool (hasE es b.toNat)]) ∧ Still w w' := by
  obtain ⟨o, h1, _⟩ := h; subst hz; exact kget_any h1 b
set_option maxRecDepth 100000 in
theorem KOwn.next_ (h : KOwn B N w g es) (a : Int) (ha : -9223372036854775808 ≤ a) : Calls Try.prog 21 #[.pointer (some ⟨g, 0, none⟩), .int .i64 a] w fun e w' => e = .returned (entV (nextE es a)) ∧ Still w w' := by
  obtain ⟨o, h1, _⟩ := h; exact knext_any h1 a ha
set_option maxRecDepth 100000 in
theorem KOwn.prev_ (h : KOwn B N w g es) (a : Int) (ha : a ≤ 9223372036854775807) : Calls Try.prog 23 #[.pointer (some ⟨g, 0, none⟩), .int .i64 a] w fun e w' => e = .returned (entV (prevE es a)) ∧ Still w w' := by
  obtain ⟨o, h1, _⟩ := h; exact kprev_any h1 a ha
set_option maxRecDepth 100000 in
theorem KOwn.len_ (h : KOwn B N w g es) : Calls Try.prog 22 #[.pointer (some ⟨g, 0, none⟩)] w fun e w' => e = .returned (.int .i64 (es.length : Int)) ∧ Still w w' := by
  obtain ⟨o, h1, _⟩ := h; exact klen_any h1
set_option maxRecDepth 100000 in
theorem KOwn.kind_ (h : KOwn B N w g es) : Calls Try.prog 15 #[.pointer (some ⟨g, 0, none⟩)] w fun e w' => e = .returned (.int .i64 (kindN es.length : Int)) ∧ Still w w' := by
  obtain ⟨o, h1, _⟩ := h; exact kkind_any h1
set_option maxRecDepth 100000 in
/-- Other ones with the same, all new. -/
theorem KOwn.copy_ (h : KOwn B N w g es) : Calls Try.prog 20 #[.pointer (some ⟨g, 0, none⟩)] w fun e w' =>
    ∃ g', e = .returned (.pointer (some ⟨g', 0, none⟩)) ∧ w.heap.size ≤ g' ∧ KOwn w.heap.size (fun _ => False) w' g' es ∧ Below w.heap.size w w' := by
  obtain ⟨o, h1, _⟩ := h
  refine (kcopy_any h1).mono ?_
  rintro e w' ⟨g', o', rfl, k1, k2, k3⟩
  exact ⟨g', rfl, k2 g' (.inl rfl), ⟨o', k1, fun i hi => ⟨k2 i (.inr hi), fun q => q⟩⟩, k3⟩
end
set_option maxRecDepth 100000 in
/-- New kids. -/
theorem KOwn.new (w : World) : Calls Try.prog 7 #[] w fun e w' => e = .returned (.pointer (some ⟨w.heap.size, 0, none⟩)) ∧ KOwn w.heap.size (fun _ => False) w' w.heap.size [] ∧ Below w.heap.size w w' := by
  refine (knew_any w).mono ?_
  rintro e w' ⟨o, rfl, h1, h2, h3⟩
  exact ⟨rfl, ⟨o, h1, fun i hi => ⟨Nat.le_of_lt (h2 i hi), fun q => q⟩⟩, h3⟩

/-- So many bytes from 0 on, each by itself. -/
def fiveL (k : Nat) : List Ent := (List.range k).map (fun i => (UInt8.ofNat i, (i : Int)))
theorem five_set {k : Nat} (h : k < 5) : setE (fiveL k) (UInt8.ofNat k) (k : Int) = fiveL (k + 1) := by
  rcases (show k = 0 ∨ k = 1 ∨ k = 2 ∨ k = 3 ∨ k = 4 by omega) with rfl | rfl | rfl | rfl | rfl <;> decide
set_option maxRecDepth 100000 in
set_option maxHeartbeats 1000000 in
theorem kalive_any (w : World) : Calls Try.prog 18 #[] w fun e w' => e = .returned (.bool true) ∧ Below w.heap.size w w' := by
  have C0 := Lib.hid (KOwn.new w)
  have C1 := Lib.hid (fun (W : World) (g : Nat) (h : KOwn w.heap.size (fun _ => False) W g []) => show Calls Try.prog 15 #[.pointer (some ⟨g, 0, none⟩)] W fun e w' => e = .returned (.int .i64 4) ∧ Still W w' from h.kind_)
  have C2 := Lib.hid (fun (W : World) (g k : Nat) (hk : k < 5) (h : KOwn w.heap.size (fun _ => False) W g (fiveL k)) (hb : Below w.heap.size w W) => show Calls Try.prog 12 #[.pointer (some ⟨g, 0, none⟩), .int .u8 (k : Int), .int .i64 (k : Int)] W fun e w' => e = .returned (.int .i64 0) ∧ KOwn w.heap.size (fun _ => False) w' g (fiveL (k + 1)) ∧ Kept (fun i => i = g ∨ w.heap.size ≤ i ∧ ¬ False) W w' from by
    have := h.set_ hb.size (fun _ q => q.elim) (UInt8.ofNat k) (k : Int) (k : Int) (by rw [UInt8.toNat_ofNat']; omega)
    rwa [five_set hk] at this)
  have C3 := Lib.hid (fun (W : World) (g : Nat) (h : KOwn w.heap.size (fun _ => False) W g (fiveL 5)) => show Calls Try.prog 14 #[.pointer (some ⟨g, 0, none⟩), .int .u8 4] W fun e w' => e = .returned (.tuple #[.int .i64 4, .bool true]) ∧ Still W w' from h.get_ 4 4 rfl)
  have C4 := Lib.hid (fun (W : World) (g : Nat) (h : KOwn w.heap.size (fun _ => False) W g (fiveL 5)) => show Calls Try.prog 15 #[.pointer (some ⟨g, 0, none⟩)] W fun e w' => e = .returned (.int .i64 16) ∧ Still W w' from h.kind_)
  have C5 := Lib.hid (fun (W : World) (g : Nat) (h : KOwn w.heap.size (fun _ => False) W g (fiveL 5)) (hb : Below w.heap.size w W) => show Calls Try.prog 10 #[.pointer (some ⟨g, 0, none⟩), .int .u8 4] W fun e w' => e = .returned (.int .i64 0) ∧ KOwn w.heap.size (fun _ => False) w' g (fiveL 4) ∧ Kept (fun i => i = g ∨ w.heap.size ≤ i ∧ ¬ False) W w' from by
    have := h.drop_ hb.size (fun _ q => q.elim) 4 4 rfl
    rwa [show dropE (fiveL 5) 4 = fiveL 4 from by decide, show dropN (fiveL 5) 4 = 0 from by decide] at this)
  have C6 := Lib.hid (fun (W : World) (g : Nat) (h : KOwn w.heap.size (fun _ => False) W g (fiveL 4)) => show Calls Try.prog 15 #[.pointer (some ⟨g, 0, none⟩)] W fun e w' => e = .returned (.int .i64 4) ∧ Still W w' from h.kind_)
  have C7 := Lib.hid (fun (W : World) (g B : Nat) (h : KOwn B (fun _ => False) W g (fiveL 4)) => show Calls Try.prog 22 #[.pointer (some ⟨g, 0, none⟩)] W fun e w' => e = .returned (.int .i64 4) ∧ Still W w' from h.len_)
  have C8 := Lib.hid (fun (W : World) => show Calls Try.prog 19 #[.int .i64 17] W fun e w' => e = .returned (.int .i64 48) ∧ w' = W from kindof_any W 17)
  go_enter Try.func18, Try.ntmps18
  go_wp2_with fail
  (with_reducible refine C0.out.mono ?_)
  rintro e w1 ⟨rfl, h1, b1⟩
  have H1 := Lib.hid h1
  have B1 := Lib.hid b1
  clear h1 b1 C0
  go_wp2_with fail
  (with_reducible refine (C1.out _ _ H1.out).mono ?_)
  rintro e w2 ⟨rfl, n2, rfl⟩
  go_wp2_with fail
  go_loopw [13] (fun i wr => ∃ k : Nat, k ≤ 5 ∧ i = .int .i64 k ∧ Hid (KOwn w.heap.size (fun _ => False) wr w.heap.size (fiveL k)) ∧ Hid (Below w.heap.size w wr)) (fun i _ => 5 - (intOf i).toNat)
  case atStart => exact ⟨0, by omega, rfl, Lib.hid (H1.out.drewN _), Lib.hid (below_drewN B1.out _)⟩
  case round =>
    obtain ⟨k, hk, rfl, HK, BK⟩ := hrel
    by_cases hk5 : k < 5
    · have D2 := Lib.hid (C2.out _ _ k hk5 HK.out BK.out)
      have ew : IntKind.u8.wrap (k : Int) = (k : Int) := by rw [IntKind.wrap_u8]; omega
      have ei : IntKind.i64.wrap ((k : Int) + 1) = (k : Int) + 1 := by rw [IntKind.wrap_i64]; omega
      go_wp2_with fail
      (with_reducible refine D2.out.mono ?_)
      rintro e w3 ⟨rfl, h3, k3⟩
      have H3 := Lib.hid h3
      have B3 := Lib.hid (BK.out.trans (k3.below BK.out.size (fun i q => by rcases q with q | q; omega; exact q.1)))
      clear h3 k3
      go_wp2
      exact ⟨⟨k + 1, by omega, by go_num, H3, B3⟩, by simp [intOf]; omega⟩
    · obtain rfl : k = 5 := by omega
      go_wp2_with fail
      (with_reducible refine (C3.out _ _ HK.out).mono ?_)
      rintro e w3 ⟨rfl, n3, rfl⟩
      go_wp2_with fail
      (with_reducible refine (C4.out _ _ (HK.out.drewN n3)).mono ?_)
      rintro e w4 ⟨rfl, n4, rfl⟩
      go_wp2_with fail
      (with_reducible refine (C5.out _ _ (HK.out.drewN (n3 + n4)) (below_drewN BK.out (n3 + n4))).mono ?_)
      rintro e w5 ⟨rfl, h5, k5⟩
      have H5 := Lib.hid h5
      have B5 := Lib.hid ((below_drewN BK.out (n3 + n4)).trans ((k5.below (B := w.heap.size) (by have := BK.out.size; simpa using this) (fun i q => by rcases q with q | q; omega; exact q.1))))
      clear h5 k5
      go_wp2_with fail
      (with_reducible refine (C6.out _ _ H5.out).mono ?_)
      rintro e w6 ⟨rfl, n6, rfl⟩
      go_wp2_with fail
      (with_reducible refine (C7.out _ _ _ (H5.out.drewN n6)).mono ?_)
      rintro e w7 ⟨rfl, n7, rfl⟩
      go_wp2_with fail
      (with_reducible refine (H5.out.drewN (n6 + n7)).copy_.mono ?_)
      rintro e w8 ⟨g', rfl, hg', h8, b8⟩
      have H8 := Lib.hid h8
      have B8 := Lib.hid (b8.mono (show w.heap.size ≤ (w5.drewN (n6 + n7)).heap.size from B5.out.size))
      clear hg' h8 b8
      go_wp2_with fail
      (with_reducible refine (C7.out _ _ _ H8.out).mono ?_)
      rintro e w9 ⟨rfl, n9, rfl⟩
      go_wp2_with fail
      (with_reducible refine (C8.out _).mono ?_)
      rintro e w10 ⟨rfl, rfl⟩
      go_wp2
      go_ret
      exact ⟨rfl, below_drewN ((below_drewN B5.out _).trans B8.out) _⟩
end Go.Proofs.Ytahmalmpbdfnhaa
