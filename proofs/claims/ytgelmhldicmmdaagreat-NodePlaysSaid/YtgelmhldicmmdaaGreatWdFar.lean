/-
  How arguments are read: a slice of layer 12's steps that came in: which, two places, an owner, a byte, a part, a value.
  What the statement's own far answers: where it is no, the steps are few, and their parts short.
-/
import Derived.Test.YtgelmhldicmmdaaGreatRow
import Derived.Test.YtgelmhldicmmdaaGreatRws
import Derived.Deep.Slices
import Derived.Deep.Strs
namespace Go.Proofs.YtgelmhldicmmdaaGreat
open Go.ChangeShapes Go.WideShapes Go.ChangeAt Go.RowKit

structure Stn where
  d : Int
  i : Int
  j : Int
  o : Int
  b : UInt8
  A : Option Addr
  n : Nat
  c : Nat
  p : List UInt8
  v : Int
def Stn.cells (s : Stn) : List Value := [.int .u8 s.d, .int .u16 s.i, .int .u16 s.j, .int .u8 s.o, .int .u8 (s.b.toNat : Int), .slice s.A s.n s.c, .int .u64 s.v]
def Stn.fine (s : Stn) : Prop := (0 ≤ s.d) ∧ (0 ≤ s.i ∧ s.i ≤ 65535) ∧ (0 ≤ s.j ∧ s.j ≤ 65535) ∧ (0 ≤ s.o ∧ s.o ≤ 255) ∧ s.n ≤ s.c
/-- The slice value '.slice A n c' holds the steps ss, and lies below block B. -/
def Sns (w : World) (B : Nat) (A : Option Addr) (n : Nat) (ss : List Stn) : Prop := Rws w B A n 7 (ss.map Stn.cells) ∧ ∀ s ∈ ss, Byt w B s.A s.n s.p ∧ s.fine
section
variable {w w' : World} {B B' n : Nat} {A : Option Addr} {ss : List Stn}
theorem Sns.none_ : Sns w B A 0 [] := ⟨Rws.none_, fun _ h => by cases h⟩
theorem Sns.length (h : Sns w B A n ss) : ss.length = n := by have := h.1.1; simpa using this
theorem Sns.below (h : Sns w B A n ss) (hb : Below B w w') : Sns w' B A n ss := ⟨h.1.below hb, fun s hs => ⟨(h.2 s hs).1.below hb, (h.2 s hs).2⟩⟩
theorem Sns.at_ {k : Nat} (h : Sns w B A n ss) (hk : k < n) : ∃ (ad : Addr) (s : Stn), A = some ad ∧ ad.block < B ∧ ss[k]? = some s ∧ (∀ (i : Nat) (u : Value), s.cells[i]? = some u → w.cell? (ad.add (k * 7 + i)) = some u) ∧ Byt w B s.A s.n s.p ∧ s.fine := by
  obtain ⟨ad, c, e, hb, hc, _, hu⟩ := h.1.at_ hk
  rw [List.getElem?_map] at hc
  rcases ht : ss[k]? with _ | t
  · rw [ht] at hc; cases hc
  · rw [ht] at hc
    simp only [Option.map_some, Option.some.injEq] at hc
    subst hc
    exact ⟨ad, t, e, hb, rfl, hu, h.2 t (List.mem_of_getElem? ht)⟩
/-- The cells of the step at k, as the walk asks for them. -/
theorem Sns.at7 {k : Nat} (h : Sns w B A n ss) (hk : k < n) : ∃ (ad : Addr) (s : Stn), A = some ad ∧ ad.block < B ∧ ss[k]? = some s ∧ w.cell? (ad.add (k * 7)) = some (.int .u8 s.d) ∧ w.cell? ⟨(ad.add (k * 7)).block, (ad.add (k * 7)).off + 1, none⟩ = some (.int .u16 s.i) ∧ w.cell? ⟨(ad.add (k * 7)).block, (ad.add (k * 7)).off + 2, none⟩ = some (.int .u16 s.j) ∧ w.cell? ⟨(ad.add (k * 7)).block, (ad.add (k * 7)).off + 3, none⟩ = some (.int .u8 s.o) ∧ w.cell? ⟨(ad.add (k * 7)).block, (ad.add (k * 7)).off + 4, none⟩ = some (.int .u8 (s.b.toNat : Int)) ∧ w.cell? ⟨(ad.add (k * 7)).block, (ad.add (k * 7)).off + 5, none⟩ = some (.slice s.A s.n s.c) ∧ w.cell? ⟨(ad.add (k * 7)).block, (ad.add (k * 7)).off + 6, none⟩ = some (.int .u64 s.v) ∧ Byt w B s.A s.n s.p ∧ s.fine := by
  obtain ⟨ad, s, e, hb, hs, hu, h1, h2⟩ := h.at_ hk
  refine ⟨ad, s, e, hb, hs, hu 0 _ rfl, ?_, ?_, ?_, ?_, ?_, ?_, h1, h2⟩
  · rw [show (⟨(ad.add (k * 7)).block, (ad.add (k * 7)).off + 1, none⟩ : Addr) = ad.add (k * 7 + 1) by rw [← add_of_add]; rfl]; exact hu 1 _ rfl
  · rw [show (⟨(ad.add (k * 7)).block, (ad.add (k * 7)).off + 2, none⟩ : Addr) = ad.add (k * 7 + 2) by rw [← add_of_add]; rfl]; exact hu 2 _ rfl
  · rw [show (⟨(ad.add (k * 7)).block, (ad.add (k * 7)).off + 3, none⟩ : Addr) = ad.add (k * 7 + 3) by rw [← add_of_add]; rfl]; exact hu 3 _ rfl
  · rw [show (⟨(ad.add (k * 7)).block, (ad.add (k * 7)).off + 4, none⟩ : Addr) = ad.add (k * 7 + 4) by rw [← add_of_add]; rfl]; exact hu 4 _ rfl
  · rw [show (⟨(ad.add (k * 7)).block, (ad.add (k * 7)).off + 5, none⟩ : Addr) = ad.add (k * 7 + 5) by rw [← add_of_add]; rfl]; exact hu 5 _ rfl
  · rw [show (⟨(ad.add (k * 7)).block, (ad.add (k * 7)).off + 6, none⟩ : Addr) = ad.add (k * 7 + 6) by rw [← add_of_add]; rfl]; exact hu 6 _ rfl
end
/-- Of something for each place below m a list. -/
theorem list_for {α : Type} {m : Nat} {Q : Nat → α → Prop} (h : ∀ i, i < m → ∃ a, Q i a) : ∃ l : List α, l.length = m ∧ ∀ (i : Nat) (a : α), l[i]? = some a → Q i a := by
  induction m with
  | zero => exact ⟨[], rfl, fun i a h => by simp at h⟩
  | succ m ih =>
    obtain ⟨l, hl, hq⟩ := ih (fun i hi => h i (by omega))
    obtain ⟨a, ha⟩ := h m (by omega)
    refine ⟨l ++ [a], by simp [hl], fun i b hb => ?_⟩
    by_cases e : i < l.length
    · rw [List.getElem?_append_left e] at hb; exact hq i b hb
    · rw [List.getElem?_append_right (by omega)] at hb
      have : i - l.length = 0 := by
        have := (List.getElem?_eq_some_iff.1 hb).1; simp at this; omega
      rw [this] at hb
      simp at hb
      subst hb
      obtain rfl : i = m := by omega
      exact ha
set_option maxRecDepth 100000 in
theorem cells_stn : Tryz.prog.cellsOf 41 = 7 := by kernel_rfl
set_option maxRecDepth 100000 in
theorem cells_u16 : Tryz.prog.cellsOf 37 = 1 := by kernel_rfl
set_option maxRecDepth 100000 in
theorem cells_u64 : Tryz.prog.cellsOf 39 = 1 := by kernel_rfl
set_option maxRecDepth 100000 in
theorem cells_byts : Tryz.prog.cellsOf 38 = 1 := by kernel_rfl
section
variable {H : Type} {enc : TypeId × Value → H} {W : World}
set_option maxRecDepth 100000 in
theorem byt_cells {fuel : Nat} {cs : List Value} {x : DataW H × List MemPlace} (hf : DataW.trod enc Tryz.prog W 0 (fun _ => true) true fuel 38 cs = some x) : ∃ A n c l, cs = [.slice A n c] ∧ Byt W W.heap.size A n l ∧ n ≤ c := by
  rcases open_ints Tryz.underlying38 Tryz.underlying5 cells_u8 hf with ⟨hcs, _⟩ | ⟨x, l, c, zs, hcs, _, hl, hm, hz, _, hcell, hwz⟩
  · exact ⟨none, 0, 0, [], hcs, Byt.none_, Nat.le_refl _⟩
  · obtain ⟨bl, hb⟩ := byt_of_cells hl hm (by simpa using hz) hcell hwz
    exact ⟨_, _, _, bl, hcs, hb, hl⟩
set_option maxRecDepth 100000 in
theorem stn_cells {fuel : Nat} {cs : List Value} {x : DataW H × List MemPlace} (hf : DataW.trod enc Tryz.prog W 0 (fun _ => true) true fuel 41 cs = some x) (hlen : cs.length = 7) : ∃ s : Stn, cs = s.cells ∧ Byt W W.heap.size s.A s.n s.p ∧ s.fine := by
  obtain ⟨xs, n', _, _, _, hsz, hg⟩ := DataW.trod_struct Tryz.underlying41 hf
  have hsz' : xs.length = 7 := hsz
  have hy0 := hg 0 _ rfl
  have hy1 := hg 1 _ rfl
  have hy2 := hg 2 _ rfl
  have hy3 := hg 3 _ rfl
  have hy4 := hg 4 _ rfl
  have hy5 := hg 5 _ rfl
  have hy6 := hg 6 _ rfl
  rw [List.getElem?_eq_getElem (by omega)] at hy0 hy1 hy2 hy3 hy4 hy5 hy6
  match cs, hlen with
  | [x0, x1, x2, x3, x4, x5, x6], _ =>
    simp [cells_u8] at hy0
    simp [cells_u16] at hy1
    simp [cells_u16] at hy2
    simp [cells_u8] at hy3
    simp [cells_u8] at hy4
    simp [cells_byts] at hy5
    simp [cells_u64] at hy6
    obtain ⟨z0, hz0, _, wz0⟩ := DataW.trod_int Tryz.underlying5 hy0
    obtain ⟨z1, hz1, _, wz1⟩ := DataW.trod_int Tryz.underlying37 hy1
    obtain ⟨z2, hz2, _, wz2⟩ := DataW.trod_int Tryz.underlying37 hy2
    obtain ⟨z3, hz3, _, wz3⟩ := DataW.trod_int Tryz.underlying5 hy3
    obtain ⟨z4, hz4, _, wz4⟩ := DataW.trod_int Tryz.underlying5 hy4
    obtain ⟨A, n, c, p, hz5, hb, hnc⟩ := byt_cells hy5
    obtain ⟨z6, hz6, _, _⟩ := DataW.trod_int Tryz.underlying39 hy6
    simp at hz0 hz1 hz2 hz3 hz4 hz5 hz6
    subst hz0 hz1 hz2 hz3 hz4 hz5 hz6
    have h0 : 0 ≤ z0 ∧ z0 ≤ 255 := by simpa [Lit.wf, IntKind.min, IntKind.max, IntKind.signed, IntKind.bits] using wz0
    have h1 : 0 ≤ z1 ∧ z1 ≤ 65535 := by simpa [Lit.wf, IntKind.min, IntKind.max, IntKind.signed, IntKind.bits] using wz1
    have h2 : 0 ≤ z2 ∧ z2 ≤ 65535 := by simpa [Lit.wf, IntKind.min, IntKind.max, IntKind.signed, IntKind.bits] using wz2
    have h3 : 0 ≤ z3 ∧ z3 ≤ 255 := by simpa [Lit.wf, IntKind.min, IntKind.max, IntKind.signed, IntKind.bits] using wz3
    have h4 : 0 ≤ z4 ∧ z4 ≤ 255 := by simpa [Lit.wf, IntKind.min, IntKind.max, IntKind.signed, IntKind.bits] using wz4
    refine ⟨⟨z0, z1, z2, z3, UInt8.ofNat z4.toNat, A, n, c, p, z6⟩, ?_, hb, h0.1, h1, h2, h3, hnc⟩
    simp only [Stn.cells]
    rw [show ((UInt8.ofNat z4.toNat).toNat : Int) = z4 from by rw [UInt8.toNat_ofNat']; omega]
set_option maxRecDepth 100000 in
theorem open_sns {base : Nat} {v : Value} {d : DataW H} {p : List MemPlace}
    (hok : Value.okWide Tryz.prog W .any base 22 v) (h : DataW.Trod enc Tryz.prog W 0 (fun _ => true) true 22 v d p) :
    ∃ A n c ss, v = .slice A n c ∧ Sns W W.heap.size A n ss ∧ n ≤ c := by
  obtain ⟨a0, len0, cap0, rfl⟩ := okWide_slice Tryz.underlying22 hok
  obtain ⟨fuel, hf⟩ := h
  rcases Go.Deep.open_slice Tryz.underlying22 hf with ⟨hcs, _⟩ | ⟨a, len, cap, m, n, D, Pl, hcs, _, hl, hm, hmm, _, hi⟩
  · simp [Value.cells] at hcs
    obtain ⟨rfl, rfl, rfl⟩ := hcs
    exact ⟨none, 0, 0, [], rfl, Sns.none_, Nat.le_refl _⟩
  · simp [Value.cells] at hcs
    obtain ⟨rfl, rfl, rfl⟩ := hcs
    simp only [if_true] at hmm
    subst hmm
    rw [cells_stn] at hi
    obtain ⟨ss, hss, hq⟩ := list_for (α := Stn) (m := len0) (Q := fun j s => (Byt W W.heap.size s.A s.n s.p ∧ s.fine) ∧ ∀ (i : Nat) (u : Value), s.cells[i]? = some u → W.cell? (a.add (j * 7 + i)) = some u) (fun j hj => by
      obtain ⟨cs', hc, ht'⟩ := hi j (by omega)
      obtain ⟨_, hlen, hat⟩ := World.cells?_some hc
      obtain ⟨s, rfl, h1, h2⟩ := stn_cells ht' (by simpa using hlen)
      refine ⟨s, ⟨h1, h2⟩, fun i u hu => ?_⟩
      have hi2 : i < 7 := (List.getElem?_eq_some_iff.1 hu).1
      have e := hat i (by omega)
      rw [add_of_add] at e
      rw [e]
      exact hu)
    refine ⟨_, _, _, ss, rfl, ⟨⟨by simpa using hss, by omega, fun c hc => ?_, fun hn => ⟨a, rfl, ?_, fun j i c u hj hi => ?_⟩⟩, fun s hs => ?_⟩, hl⟩
    · obtain ⟨s, _, rfl⟩ := List.mem_map.1 hc
      rfl
    · have hp0 : ss[0]? = some (ss[0]'(by omega)) := List.getElem?_eq_getElem (by omega)
      have := lt_of_cell ((hq 0 _ hp0).2 0 _ rfl)
      rwa [block_of_add] at this
    · rw [List.getElem?_map] at hj
      rcases hf : ss[j]? with _ | f
      · rw [hf] at hj; cases hj
      · rw [hf] at hj
        simp only [Option.map_some, Option.some.injEq] at hj
        subst hj
        exact (hq j f hf).2 i u hi
    · obtain ⟨i, hi, e⟩ := List.mem_iff_getElem.1 hs
      exact (hq i s (by rw [List.getElem?_eq_getElem hi, e])).1
end
end Go.Proofs.YtgelmhldicmmdaaGreat

namespace Go.Proofs.YtgelmhldicmmdaaGreat
open Go.RowKit

def FarPost (w : World) (n : Nat) (ss : List Stn) (e : Ending) (w' : World) : Prop := ∃ b : Bool, e = .returned (.bool b) ∧ (b = false → n ≤ 60 ∧ ∀ s ∈ ss, s.n ≤ 300) ∧ Below w.heap.size w w'
set_option maxRecDepth 100000 in
theorem min_60 (n : Nat) (q : Nat) (hq : q = min n 60) (W : World) : (Builtin.min_ #[3, 3] 3 #[.int .i64 (n : Int), .int .i64 60]).run Tryz.prog W = .ok (.int .i64 (q : Int)) W := by
  rw [run_min_int2]
  congr 2
  split <;> omega

set_option maxRecDepth 100000 in
set_option maxHeartbeats 4000000 in
theorem far_any (A : Option Addr) (n c : Nat) (ss : List Stn) (w : World) (ha : Sns w w.heap.size A n ss) (hnc : n ≤ c) :
    Calls Tryz.prog 4 #[.slice A n c] w (FarPost w n ss) := by
  have hn : n ≤ 9223372036854775807 := by have := ha.1.2.1; unfold maxLen at this; omega
  have HN := Lib.hid ha.length
  have HA := Lib.hid (fun V (h : Below w.heap.size w V) => ha.below h)
  clear ha
  obtain ⟨q, hq⟩ : ∃ q : Nat, q = min n 60 := ⟨_, rfl⟩
  have hmin := min_60 n q hq
  have hq1 : q ≤ n ∧ q ≤ 60 ∧ (q = n ∨ q = 60) := by omega
  obtain ⟨l1, l2, l3⟩ := hq1
  have hqc : (q : Int) ≤ (c : Int) := by omega
  clear hq
  go_enter Tryz.func4, Tryz.ntmps4
  go_wp2
  clear hmin
  go_loopw [11] (fun i wr => ∃ k : Nat, k ≤ q ∧ i = .int .i64 k ∧ Hid (∀ (j : Nat) (s : Stn), j < k → ss[j]? = some s → s.n ≤ 300) ∧ Hid (Below w.heap.size w wr)) (fun i _ => q - (intOf i).toNat)
  case atStart => exact ⟨0, Nat.zero_le _, rfl, Lib.hid (fun j t hj => by omega), Below.refl _ _⟩
  case round =>
    obtain ⟨k, hk, rfl, HS, HB⟩ := hrel
    by_cases h1 : k < q
    · obtain ⟨ad, s, rfl, hlt, ht, hd0, hd1, hd2, hd3, hd4, hd5, hd6, hby, _⟩ := (HA.out _ HB.out).at7 (k := k) (by omega)
      have HTT := Lib.hid ht
      have hm3 : s.n ≤ 9223372036854775807 := by have := hby.2.1; unfold maxLen at this; omega
      clear ht hby
      by_cases h3 : 300 < s.n
      · go_wp2
        go_ret
        exact ⟨true, rfl, (fun q => by cases q), HB.out.alloc HB.out.size _⟩
      · go_wp2
        exact ⟨⟨k + 1, by omega, by go_num, Lib.hid (fun x y hx hyy => by
          by_cases e : x = k
          · subst e; rw [HTT.out] at hyy; injection hyy with hyy; subst hyy; omega
          · exact HS.out x y (by omega) hyy), HB.out.alloc HB.out.size _⟩, by simp [intOf]; omega⟩
    · obtain rfl : k = q := by omega
      have HS2 := Lib.hid (show n ≤ 60 → ∀ s ∈ ss, s.n ≤ 300 from fun h6 s hs => by
        obtain ⟨i, hi, e⟩ := List.mem_iff_getElem.1 hs
        exact HS.out i s (by have := HN.out; omega) (by rw [List.getElem?_eq_getElem hi, e]))
      go_wp2
      go_ret
      exact ⟨_, rfl, fun z => by
        have h6 : n ≤ 60 := by simp at z; omega
        exact ⟨h6, HS2.out h6⟩, HB.out⟩
end Go.Proofs.YtgelmhldicmmdaaGreat
