/-
  What keys.Next and the document's Next answer: the next one of a prefix, and whether there is one.
  What keys.Text, Parse, May and the document's answer.
  What keys.Parse, keys.May and the document's Parse answer.
  The calls at each statement's end (alive), and far.
  Pairs in memory, and what keys.Sorted and the document's Sorted answer: does each pair's key stand ahead of the next one's?
-/
import Derived.Test.YtidiinededalmaaGreatCmp
import Derived.Test.YtidiinededalmaaGreatMem
import Derived.IntWalk
import Derived.Laws.BitsAllLaws
import Derived.Laws.IdiomStrings
import Derived.Laws.BytesArg
namespace Go.Proofs.YtidiinededalmaaGreat
open Go.RowKit

theorem r_at {l : List UInt8} {k : Nat} {u : UInt8} (ht : Tail l (k + 1)) (hu : l[k]? = some u) (h : ((u.toNat : Int) != 255) = true) : (k : Int) + 1 = (rais l : Int) := by
  have : u ≠ 255 := fun q => by subst q; simp at h
  rw [rais_of ht (.inr ⟨u, by simpa using hu, this⟩)]; omega
theorem u_255 {u : UInt8} (h : ((u.toNat : Int) != 255) = false) : u = 255 := UInt8.toNat_inj.1 (by simp at h; simp; omega)
theorem u_255' {u : UInt8} (h : ((u.toNat : Int) == 255) = true) : u = 255 := UInt8.toNat_inj.1 (by simp at h; simp; omega)

/-- What Next leaves: the next one of l in memory of its own, or nil. -/
def NextPost (w : World) (l : List UInt8) (e : Ending) (w' : World) : Prop :=
  ∃ A n c, e = .returned (.tuple #[.slice A n c, .bool (nextB l)]) ∧ Byt w' w'.heap.size A n (nextL l) ∧ Below w.heap.size w w'

theorem NextPost.none_ {w w' : World} {l : List UInt8} (h : rais l = 0) (hb : Below w.heap.size w w') : NextPost w l (.returned (.tuple #[.slice none 0 0, .bool false])) w' := by
  refine ⟨none, 0, 0, ?_, ?_, hb⟩
  · have : nextB l = false := by simp [nextB, h]
    rw [this]
  · rw [nextL_none h]; exact Byt.none_
theorem NextPost.some_ {w w3 : World} {e : TypeId} {l : List UInt8} {k c : Nat} {u : UInt8} {g : Nat} (h : rais l = k + 1) (hu : l[k]? = some u) (hr : Row w3 g e (l.take (k + 1))) (hb : Below w.heap.size w w3) (hg : w.heap.size ≤ g) (hm : k + 1 ≤ maxLen) :
    NextPost w l (.returned (.tuple #[.slice (some ⟨g, 0, none⟩) (k + 1) c, .bool true])) (w3.setCell ⟨g, k, none⟩ (.int .u8 (((u.toNat : Int) + 1) % 256))) := by
  have e1 : ((u.toNat : Int) + 1) % 256 = ((u + 1).toNat : Int) := by rw [UInt8.toNat_add]; simp
  rw [e1]
  refine ⟨some ⟨g, 0, none⟩, k + 1, c, ?_, ?_, hb.setCell (p := ⟨g, k, none⟩) hg _⟩
  · have : nextB l = true := by simp [nextB, h]
    rw [this]
  · have h2 := hr.set_ k (u + 1)
    rw [nextL_some h hu] at h2
    exact h2.byt (by rw [nextL_length, h]) hm (by have := hr.lt; simpa [World.setCell] using this)
theorem NextPost.some' {w w1 : World} {base : Nat} {e : TypeId} {l : List UInt8} {k c : Nat} {u : UInt8} {g : Nat} (h : rais l = k + 1) (hu : l[k]? = some u) (hr : Mine w1 base e (.slice (some ⟨g, 0, none⟩) (k + 1) c) (k + 1) (l.take (k + 1))) (hb : Below w.heap.size w w1) (hg : w.heap.size ≤ g) :
    NextPost w l (.returned (.tuple #[.slice (some ⟨g, 0, none⟩) (k + 1) c, .bool true])) (w1.setCell ⟨g, k, none⟩ (.int .u8 (((u.toNat : Int) + 1) % 256))) := by
  have e1 : ((u.toNat : Int) + 1) % 256 = ((u + 1).toNat : Int) := by rw [UInt8.toNat_add]; simp
  rw [e1]
  refine ⟨some ⟨g, 0, none⟩, k + 1, c, ?_, ?_, hb.setCell (p := ⟨g, k, none⟩) hg _⟩
  · have : nextB l = true := by simp [nextB, h]
    rw [this]
  · have h2 := hr.set_ k (u + 1)
    rw [nextL_some h hu] at h2
    exact h2.byt
theorem add_one_u8 (u : UInt8) (h : u ≠ 255) : ((u.toNat : Int) + 1) = ((u + 1).toNat : Int) := by
  have h1 : u.toNat < 256 := u.toNat_lt
  have h2 : u.toNat ≠ 255 := fun q => h (UInt8.toNat_inj.1 (by simpa using q))
  rw [UInt8.toNat_add]; simp; omega

/-- One more round of a loop that strikes the bytes 255 at the end. -/
theorem rnext_at {l : List UInt8} {k : Nat} {u : UInt8} (ht : Tail l (k + 1)) (hu : l[k]? = some u) (h : ((u.toNat : Int) == 255) = false) : rais l = k + 1 := by
  have : u ≠ 255 := fun q => by subst q; simp at h
  exact rais_of ht (.inr ⟨u, by simpa using hu, this⟩)

end Go.Proofs.YtidiinededalmaaGreat

namespace Go.Proofs.YtidiinededalmaaGreat
open Go.RowKit

theorem hex_lo {c : Nat} (h1 : 48 ≤ c) (h2 : c ≤ 57) : hexN c = c - 48 := by unfold hexN; rw [if_pos ⟨h1, h2⟩]
theorem hex_hi {c : Nat} (h1 : 97 ≤ c) (h2 : c ≤ 102) : hexN c = c - 87 := by unfold hexN; rw [if_neg (by omega), if_pos ⟨h1, h2⟩]
theorem hex_no {c : Nat} (h1 : ¬ (48 ≤ c ∧ c ≤ 57)) (h2 : ¬ (97 ≤ c ∧ c ≤ 102)) : hexN c = 16 := by unfold hexN; rw [if_neg h1, if_neg h2]

/-- What digit answers. -/
def digitV (c : Nat) : Int := if hexN c < 16 then (hexN c : Int) else 0
def digitB (c : Nat) : Bool := decide (hexN c < 16)

theorem dg_lo {c : Nat} (h1 : (48 : Int) ≤ c) (h2 : (c : Int) ≤ 57) : (c : Int) - 48 = digitV c ∧ true = digitB c := by
  unfold digitV digitB; rw [hex_lo (by omega) (by omega), if_pos (by omega)]; exact ⟨by omega, by symm; rw [decide_eq_true_eq]; omega⟩
theorem dg_hi {c : Nat} (h1 : (97 : Int) ≤ c) (h2 : (c : Int) ≤ 102) : (c : Int) - 97 + 10 = digitV c ∧ true = digitB c := by
  unfold digitV digitB; rw [hex_hi (by omega) (by omega), if_pos (by omega)]; exact ⟨by omega, by symm; rw [decide_eq_true_eq]; omega⟩
theorem dg_no {c : Nat} (h1 : ¬ (48 ≤ c ∧ c ≤ 57)) (h2 : ¬ (97 ≤ c ∧ c ≤ 102)) : 0 = digitV c ∧ false = digitB c := by
  unfold digitV digitB; rw [hex_no h1 h2]; exact ⟨rfl, rfl⟩
theorem ret_dg {a b : Int} {x y : Bool} (h : a = b ∧ x = y) : Ending.returned (.tuple #[.int .u8 a, .bool x]) = .returned (.tuple #[.int .u8 b, .bool y]) := by rw [h.1, h.2]

theorem all_extract : ∀ h : Fin 16, (ByteArray.mk #[48, 49, 50, 51, 52, 53, 54, 55, 56, 57, 97, 98, 99, 100, 101, 102]).extract h.val (h.val + 1) = ByteArray.mk #[digU h.val] := by decide +kernel
theorem all_at : ∀ h : Fin 16, (ByteArray.mk #[48, 49, 50, 51, 52, 53, 54, 55, 56, 57, 97, 98, 99, 100, 101, 102]).data[h.val]? = some (digU h.val) := by decide +kernel
set_option maxRecDepth 100000 in
theorem slice_all (h : Nat) (hh : h < 16) (W : World) : (Instr.slice 9 (.string (ByteArray.mk #[48, 49, 50, 51, 52, 53, 54, 55, 56, 57, 97, 98, 99, 100, 101, 102])) (some (.int .i64 (h : Int))) (some (.int .i64 ((h : Int) + 1))) none).run Tryz.prog W = .ok (.string (ByteArray.mk #[digU h])) W := by
  have e := all_extract ⟨h, hh⟩
  have := run_slice_string (P := Tryz.prog) (w := W) 9 (ByteArray.mk #[48, 49, 50, 51, 52, 53, 54, 55, 56, 57, 97, 98, 99, 100, 101, 102]) .i64 .i64 (h : Int) ((h : Int) + 1) Tryz.underlying9 (by omega) (by omega) (by show (h : Int) + 1 ≤ 16; omega)
  rw [this]
  congr 2

/-- The string of bytes l. -/
def bstr (l : List UInt8) : ByteArray := ⟨l.toArray⟩
theorem bstr_toList (l : List UInt8) : (bstr l).data.toList = l := by simp [bstr]
theorem bstr_of (s : ByteArray) : bstr s.data.toList = s := by simp [bstr]
theorem text_snoc {l : List UInt8} {k : Nat} {u : UInt8} (hu : l[k]? = some u) : textL (l.take (k + 1)) = textL (l.take k) ++ [digU (u.toNat / 16), digU (u.toNat % 16)] := by
  have hk : k < l.length := (List.getElem?_eq_some_iff.1 hu).1
  have e : l[k] = u := (List.getElem?_eq_some_iff.1 hu).2
  rw [List.take_succ_eq_append_getElem hk, textL_append, e]
  rfl
theorem bstr_snoc {l : List UInt8} {k : Nat} {u : UInt8} (hu : l[k]? = some u) : bstr (textL (l.take k)) ++ (ByteArray.mk #[digU (u.toNat / 16), digU (u.toNat % 16)]) = bstr (textL (l.take (k + 1))) := by
  rw [text_snoc hu]
  apply ByteArray.ext
  simp [bstr]
theorem val_str {a b : ByteArray} (h : a = b) : Value.string a = .string b := by rw [h]
theorem ret_str {a b : ByteArray} (h : a = b) : Ending.returned (.string a) = .returned (.string b) := by rw [h]

theorem conv_byt {P : Program} {w : World} {B n : Nat} {A : Option Addr} {l : List UInt8} {src dst e : TypeId} (hs : P.underlying src = some (.slice e)) (he : P.underlying e = some (.int .u8)) (hd : P.underlying dst = some .string)
    (h : Byt w B A n l) (c : Nat) : (convert src dst (.slice A n c)).run P w = .ok (.string (bstr l)) w := by
  have hl := h.1
  rcases A with _ | ad
  · have hn : n = 0 := by
      rcases Nat.eq_zero_or_pos n with h0 | h0
      · exact h0
      · obtain ⟨ad, q, _⟩ := h.2.2 h0; cases q
    subst hn
    have : l = [] := List.eq_nil_of_length_eq_zero hl
    subst this
    exact run_convert_bytes_nil w src e hs he 0 c dst hd
  · subst hl
    refine run_convert_bytes_back w src dst e ad c l hs he hd (fun j hj => ?_)
    obtain ⟨ad', q, _, hc⟩ := h.2.2 (by omega)
    injection q with q
    subst q
    exact hc j _ (List.getElem?_eq_getElem hj)

/-- The row that Text fills, behind k bytes. -/
def rowT (l : List UInt8) (n k : Nat) : List UInt8 := textL (l.take k) ++ List.replicate (2 * (n - k)) 0

theorem rowT_length {l : List UInt8} {n k : Nat} (hn : l.length = n) (hk : k ≤ n) : (rowT l n k).length = 2 * n := by
  simp [rowT, textL_length]; omega
theorem rowT_at {l : List UInt8} {n k : Nat} (hn : l.length = n) (hk : k < n) : (rowT l n k)[2 * k]? = some 0 ∧ (rowT l n k)[2 * k + 1]? = some 0 := by
  have e : (textL (l.take k)).length = 2 * k := by rw [textL_length, List.length_take]; omega
  unfold rowT
  constructor
  · rw [List.getElem?_append_right (by omega), e, List.getElem?_replicate, if_pos (by omega)]
  · rw [List.getElem?_append_right (by omega), e, List.getElem?_replicate, if_pos (by omega)]
theorem rowT_step {l : List UInt8} {n k : Nat} {u : UInt8} (hn : l.length = n) (hu : l[k]? = some u) : ((rowT l n k).set (2 * k) (digU (u.toNat / 16))).set (2 * k + 1) (digU (u.toNat % 16)) = rowT l n (k + 1) := by
  have hk : k < l.length := (List.getElem?_eq_some_iff.1 hu).1
  have e : (textL (l.take k)).length = 2 * k := by rw [textL_length, List.length_take]; omega
  unfold rowT
  rw [text_snoc hu]
  obtain ⟨m, hm⟩ : ∃ m, n - k = m + 1 := ⟨n - k - 1, by omega⟩
  have hm' : n - (k + 1) = m := by omega
  rw [hm, hm', show 2 * (m + 1) = 2 * m + 1 + 1 from by omega, List.replicate_succ, List.replicate_succ]
  rw [List.set_append_right _ _ (by omega), e, Nat.sub_self, List.set_append_right _ _ (by omega), e, show 2 * k + 1 - 2 * k = 1 from by omega]
  simp
theorem and15 (u : UInt8) : bits .and .u8 (u.toNat : Int) 15 = ((u.toNat % 16 : Nat) : Int) := by
  have := u8_and_nat u.toNat 15 u.toNat_lt (by omega)
  rw [show ((15 : Nat) : Int) = 15 from rfl] at this
  rw [this, show (15 : Nat) = 2 ^ 4 - 1 from rfl, Nat.and_two_pow_sub_one_eq_mod]
theorem all_get (h : Nat) (hh : h < 16) : (ByteArray.mk #[48, 49, 50, 51, 52, 53, 54, 55, 56, 57, 97, 98, 99, 100, 101, 102])[h]'(by show h < 16; exact hh) = digU h := by
  have := all_at ⟨h, hh⟩
  simp only at this
  have h2 := (Array.getElem?_eq_some_iff.1 this).2
  exact h2

end Go.Proofs.YtidiinededalmaaGreat

namespace Go.Proofs.YtidiinededalmaaGreat
open Go.RowKit

/-- What Parse leaves. -/
def ParsePost (w : World) (s : List UInt8) (e : Ending) (w' : World) : Prop :=
  ∃ A n c, e = .returned (.tuple #[.slice A n c, .int .i64 (parseR s).2]) ∧ Byt w' w'.heap.size A n (parseR s).1 ∧ Below w.heap.size w w'

theorem ParsePost.none_ {w w' : World} {s : List UInt8} {x : Int} (h : parseR s = ([], x)) (hb : Below w.heap.size w w') : ParsePost w s (.returned (.tuple #[.slice none 0 0, .int .i64 x])) w' := by
  refine ⟨none, 0, 0, ?_, ?_, hb⟩
  · rw [h]
  · rw [h]; exact Byt.none_
theorem ParsePost.some_ {w w' : World} {s d : List UInt8} {e : TypeId} {g k c : Nat} (h : parseR s = (d, 0)) (hr : Row w' g e d) (hd : d.length = k) (hk : k ≤ maxLen) (hb : Below w.heap.size w w') : ParsePost w s (.returned (.tuple #[.slice (some ⟨g, 0, none⟩) k c, .int .i64 0])) w' := by
  refine ⟨some ⟨g, 0, none⟩, k, c, ?_, ?_, hb⟩
  · rw [h]
  · rw [h]; exact hr.byt hd hk hr.lt
theorem ParsePost.some' {w w' : World} {s d : List UInt8} {e : TypeId} {A : Option Addr} {base k c : Nat} (h : parseR s = (d, 0)) (hr : Mine w' base e (.slice A k c) k d) (hb : Below w.heap.size w w') : ParsePost w s (.returned (.tuple #[.slice A k c, .int .i64 0])) w' := by
  refine ⟨A, k, c, ?_, ?_, hb⟩
  · rw [h]
  · rw [h]; exact hr.byt
theorem or_join {x y : Nat} (hx : x < 16) (hy : y < 16) : bits .or .u8 ((x : Int) * 16) (y : Int) = ((UInt8.ofNat (16 * x + y)).toNat : Int) := by
  have h := u8_or_nat (x * 16) y (by omega) (by omega)
  rw [show (((x * 16 : Nat) : Int)) = (x : Int) * 16 from by omega] at h
  rw [h]
  have e : x * 16 ||| y = 16 * x + y := by
    have := Nat.two_pow_add_eq_or_of_lt (i := 4) (b := y) (by omega) x
    rw [Nat.mul_comm x 16]; exact this.symm
  rw [e, UInt8.toNat_ofNat', Nat.mod_eq_of_lt (by simp; omega)]
theorem parse_big {s : List UInt8} {n : Nat} (h : s.length = n) (h1 : 131071 < n) : parseR s = ([], 8) := by
  unfold parseR; rw [if_pos (by omega)]
theorem parse_odd {s : List UInt8} {n : Nat} (h : s.length = n) (h1 : n ≤ 131071) (h2 : n % 2 = 1) : parseR s = ([], 3) := by
  unfold parseR; rw [if_neg (by omega), if_pos (by omega)]
theorem parse_bad {s : List UInt8} {n k : Nat} {a b : UInt8} (h : s.length = n) (h1 : n ≤ 131071) (ha : s[2 * k]? = some a) (hb : s[2 * k + 1]? = some b) (hx : ¬ (hexN a.toNat < 16 ∧ hexN b.toNat < 16)) : parseR s = ([], 3) := by
  unfold parseR
  rw [if_neg (by omega)]
  split
  · rfl
  · rw [parse_stop ha hb hx]
theorem parse_ok {s d : List UInt8} {n : Nat} (h : s.length = n) (h1 : n ≤ 131071) (h2 : n % 2 = 0) (hp : parseL s = some d) : parseR s = (d, 0) := by
  unfold parseR; rw [if_neg (by omega), if_neg (by omega), hp]

theorem str_at (s : ByteArray) (k : Nat) (h : k < s.size) : s.data.toList[k]? = some s[k] := by
  rw [List.getElem?_eq_getElem (by simpa using h)]; rfl
theorem digitV_of {c : Nat} (h : hexN c < 16) : digitV c = (hexN c : Int) := by unfold digitV; rw [if_pos h]

/-- The row that Parse fills. -/
def rowP (d : List UInt8) (m k : Nat) : List UInt8 := d ++ List.replicate (m - k) 0
theorem rowP_at {d : List UInt8} {m k : Nat} (hd : d.length = k) (hk : k < m) : (rowP d m k)[k]? = some 0 := by
  unfold rowP; rw [List.getElem?_append_right (by omega), hd, Nat.sub_self, List.getElem?_replicate, if_pos (by omega)]
theorem rowP_step {d : List UInt8} {m k : Nat} (u : UInt8) (hd : d.length = k) (hk : k < m) : (rowP d m k).set k u = rowP (d ++ [u]) m (k + 1) := by
  unfold rowP
  obtain ⟨r, hr⟩ : ∃ r, m - k = r + 1 := ⟨m - k - 1, by omega⟩
  rw [hr, show m - (k + 1) = r from by omega, List.replicate_succ, List.set_append_right _ _ (by omega), hd, Nat.sub_self]
  simp

set_option maxRecDepth 100000 in
set_option maxHeartbeats 400000 in
theorem may_any (A : Option Addr) (n c : Nat) (w : World) (hn : n ≤ 9223372036854775807) :
    Calls Tryz.prog 46 #[.slice A n c] w fun e w' => e = .returned (.int .i64 (if n ≤ 65535 then 0 else 8)) ∧ w = w' := by
  go_enter Tryz.func46, Tryz.ntmps46
  go_wp2
  · go_ret
    exact ⟨ret_int (by first | rfl | rw [if_neg (by omega)]), rfl⟩
  · go_ret
    exact ⟨ret_int (by first | rfl | rw [if_pos (by omega)]), rfl⟩

end Go.Proofs.YtidiinededalmaaGreat

namespace Go.Proofs.YtidiinededalmaaGreat
open Go.RowKit

def farB (vs : List (Option Addr × Nat × Nat)) : Bool := vs.any fun v => decide (300 < v.2.1)
theorem far_yes {vs : List (Option Addr × Nat × Nat)} {k : Nat} {v : Option Addr × Nat × Nat} (h : vs[k]? = some v) (hv : 300 < v.2.1) : true = farB vs := by
  symm
  unfold farB
  rw [List.any_eq_true]
  exact ⟨v, List.mem_of_getElem? h, by simpa using hv⟩
theorem far_no {vs : List (Option Addr × Nat × Nat)} (h : ∀ (j : Nat) (v : Option Addr × Nat × Nat), vs[j]? = some v → v.2.1 ≤ 300) : false = farB vs := by
  symm
  unfold farB
  rw [List.any_eq_false]
  intro v hv
  obtain ⟨j, hj⟩ := List.getElem?_of_mem hv
  have := h j v hj
  simp; omega

def slv (v : Option Addr × Nat × Nat) : Value := .slice v.1 v.2.1 v.2.2
theorem farB_two {A A' : Option Addr} {n n' c c' : Nat} (h : farB [(A, n, c), (A', n', c')] = false) : n ≤ 300 ∧ n' ≤ 300 := by
  simp [farB] at h; omega
theorem farB_three {A A' A'' : Option Addr} {n n' n'' c c' c'' : Nat} (h : farB [(A, n, c), (A', n', c'), (A'', n'', c'')] = false) : n ≤ 300 ∧ n' ≤ 300 ∧ n'' ≤ 300 := by
  simp [farB] at h; omega
theorem farB_one {A : Option Addr} {n c : Nat} (h : farB [(A, n, c)] = false) : n ≤ 300 := by
  simp [farB] at h; omega

set_option maxRecDepth 100000 in
set_option maxHeartbeats 400000 in
theorem sorted_nil (w : World) : Calls Tryz.prog 47 #[.slice none 0 0] w fun e w' => e = .returned (.bool true) ∧ w = w' := by
  go_enter Tryz.func47, Tryz.ntmps47
  go_wp2
  go_loop [6] (fun i => i = .int .i64 0) (fun _ => 0)
  case atStart => rfl
  case round =>
    subst hrel
    go_wp2
    go_ret
    exact ⟨rfl, rfl⟩

end Go.Proofs.YtidiinededalmaaGreat

namespace Go.Proofs.YtidiinededalmaaGreat
open Go.RowKit

/-- A pair as it lies in memory: its key's slice, the key's bytes, its value. -/
structure PV where
  A : Option Addr
  n : Nat
  c : Nat
  key : List UInt8
  val : Int

/-- The slice value '.slice A n c' holds the pairs ps, and lies below block B, as their keys do. -/
def Prs (w : World) (B : Nat) (A : Option Addr) (n : Nat) (ps : List PV) : Prop :=
  ps.length = n ∧ n ≤ maxLen ∧ (∀ (j : Nat) (p : PV), ps[j]? = some p → Byt w B p.A p.n p.key) ∧
    (0 < n → ∃ ad, A = some ad ∧ ad.block < B ∧ ∀ (j : Nat) (p : PV), ps[j]? = some p → w.cell? (ad.add (j * 2)) = some (.slice p.A p.n p.c) ∧ w.cell? (ad.add (j * 2 + 1)) = some (.int .u64 p.val))

section
variable {w w' : World} {B B' n : Nat} {A : Option Addr} {ps : List PV}
theorem Prs.none_ : Prs w B A 0 [] := ⟨rfl, by unfold maxLen; omega, fun j p h => by simp at h, fun h => absurd h (by omega)⟩
theorem Prs.keep (h : Prs w B A n ps) (hk : ∀ p : Addr, p.block < B → w'.cell? p = w.cell? p) : Prs w' B A n ps :=
  ⟨h.1, h.2.1, fun j p hp => (h.2.2.1 j p hp).keep hk, fun hn => by
    obtain ⟨ad, e, hb, hc⟩ := h.2.2.2 hn
    exact ⟨ad, e, hb, fun j p hp => ⟨(hk _ (by rw [block_of_add]; exact hb)).trans (hc j p hp).1, (hk _ (by rw [block_of_add]; exact hb)).trans (hc j p hp).2⟩⟩⟩
theorem Prs.below (h : Prs w B A n ps) (hb : Below B w w') : Prs w' B A n ps := h.keep fun _ hp => hb.cell hp
theorem Prs.more (h : Prs w B A n ps) (hB : B ≤ B') : Prs w B' A n ps :=
  ⟨h.1, h.2.1, fun j p hp => (h.2.2.1 j p hp).more hB, fun hn => by
    obtain ⟨ad, e, hb, hc⟩ := h.2.2.2 hn
    exact ⟨ad, e, by omega, hc⟩⟩
theorem Prs.at_ {k : Nat} (h : Prs w B A n ps) (hk : k < n) : ∃ (ad : Addr) (p : PV), A = some ad ∧ ad.block < B ∧ ps[k]? = some p ∧ w.cell? (ad.add (k * 2)) = some (.slice p.A p.n p.c) ∧ w.cell? (ad.add (k * 2 + 1)) = some (.int .u64 p.val) ∧ Byt w B p.A p.n p.key := by
  obtain ⟨ad, e, hb, hc⟩ := h.2.2.2 (by omega)
  have hl : k < ps.length := by have := h.1; omega
  have hp := List.getElem?_eq_getElem hl
  exact ⟨ad, ps[k], e, hb, hp, (hc k _ hp).1, (hc k _ hp).2, h.2.2.1 k _ hp⟩
end

/-- Each key stands ahead of the next one, up to the place k. -/
def RiseTo (ks : List (List UInt8)) (k : Nat) : Prop := ∀ (j : Nat) (a b : List UInt8), j + 1 < k → ks[j]? = some a → ks[j + 1]? = some b → cmpL a b < 0
def riseB : List (List UInt8) → Bool
  | a :: b :: r => decide (cmpL a b < 0) && riseB (b :: r)
  | _ => true
theorem riseB_true {ks : List (List UInt8)} (h : RiseTo ks ks.length) : riseB ks = true := by
  induction ks with
  | nil => rfl
  | cons a r ih => cases r with
    | nil => rfl
    | cons b r =>
      have h0 := h 0 a b (by simp) rfl rfl
      have h1 := ih (fun j x y hj hx hy => h (j + 1) x y (by simp at hj ⊢; omega) (by simpa using hx) (by simpa using hy))
      simp [riseB, h0, h1]
theorem riseB_false {ks : List (List UInt8)} {k : Nat} {a b : List UInt8} (ha : ks[k]? = some a) (hb : ks[k + 1]? = some b) (h : 0 ≤ cmpL a b) : riseB ks = false := by
  induction ks generalizing k with
  | nil => simp at ha
  | cons x r ih => cases r with
    | nil => simp at hb
    | cons y r =>
      cases k with
      | zero =>
        simp at ha hb
        subst ha hb
        have : ¬ cmpL x y < 0 := by omega
        simp [riseB, this]
      | succ k => simp only [riseB]; rw [ih (by simpa using ha) (by simpa using hb), Bool.and_false]
theorem RiseTo.zero (ks : List (List UInt8)) : RiseTo ks 1 := fun j a b hj => by omega
theorem RiseTo.start (ks : List (List UInt8)) : RiseTo ks 0 := fun j a b hj => by omega
theorem RiseTo.succ {ks : List (List UInt8)} {k : Nat} {a b : List UInt8} (h : RiseTo ks (k + 1)) (ha : ks[k]? = some a) (hb : ks[k + 1]? = some b) (hab : cmpL a b < 0) : RiseTo ks (k + 2) := fun j x y hj hx hy => by
  by_cases e : j = k
  · subst e; rw [ha] at hx; rw [hb] at hy; injection hx with hx; injection hy with hy; subst hx hy; exact hab
  · exact h j x y (by omega) hx hy

theorem key_at {ps : List PV} {k : Nat} {p : PV} (h : ps[k]? = some p) : (ps.map PV.key)[k]? = some p.key := by simp [h]

set_option maxRecDepth 100000 in
set_option maxHeartbeats 1000000 in
theorem sorted_any (A : Option Addr) (n c B : Nat) (ps : List PV) (w : World) (ha : Prs w B A n ps) (hn : n ≤ 1000) :
    Calls Tryz.prog 47 #[.slice A n c] w fun e w' => e = .returned (.bool (riseB (ps.map PV.key))) ∧ Still w w' := by
  have HN := Lib.hid (show (ps.map PV.key).length = n from by simpa using ha.1)
  have HP := Lib.hid ha
  clear ha
  go_enter Tryz.func47, Tryz.ntmps47
  go_wp2
  go_loopw [6] (fun i wr => ∃ k : Nat, k ≤ n ∧ i = .int .i64 k ∧ RiseTo (ps.map PV.key) k ∧ Still w wr) (fun i _ => n - (intOf i).toNat)
  case atStart => exact ⟨0, Nat.zero_le _, rfl, RiseTo.start _, Still.refl _⟩
  case round =>
    obtain ⟨k, hk, rfl, hri, q, rfl⟩ := hrel
    have HRI := Lib.hid hri
    clear hri
    by_cases h1 : k < n
    · cases k with
      | zero =>
        have d0 : decide ((0 : Int) < 0) = false := by simp
        go_wp2
        go_quiet (fail)
        go_wp2
        exact ⟨⟨1, by omega, rfl, RiseTo.zero _, (by repeat (first | exact Still.refl _ | apply Still.step))⟩, by simp [intOf]; omega⟩
      | succ k =>
        obtain ⟨ad, p, rfl, _, hp, hc1, _, hb1⟩ := HP.out.at_ (k := k) (by omega)
        obtain ⟨ad', p', q', _, hp', hc2, _, hb2⟩ := HP.out.at_ (k := k + 1) h1
        injection q' with q'
        subst q'
        have HX := Lib.hid hp
        have HY := Lib.hid hp'
        have HB1 := Lib.hid hb1
        have HB2 := Lib.hid hb2
        clear hp hp' hb1 hb2
        go_wp2
        have e1 : IntKind.i64.wrap (k : Int) = k := IntWalk.i64_in _ (by omega)
        have i1 : (0 : Int) ≤ (k : Int) + 1 := by omega
        have i2 : ((k : Int) + 1).toNat = k + 1 := by omega
        have i3 : (k : Int) + 1 < (n : Int) := by omega
        have i4 : (k : Int) < (n : Int) := by omega
        go_quiet ((go_at_call 33; exact quiet_st2 (cmp_any _ _ _ _ _ _ B p.key p'.key _ (HB1.out.drewN _) (HB2.out.drewN _))))
        clear e1 i1 i2 i3 i4
        go_wp2
        · go_ret
          exact ⟨ret_bool (by rw [riseB_false (key_at HX.out) (key_at HY.out) (by omega)]), (by repeat (first | exact Still.refl _ | apply Still.step))⟩
        · exact ⟨⟨k + 2, by omega, by go_num, HRI.out.succ (key_at HX.out) (key_at HY.out) (by omega), (by repeat (first | exact Still.refl _ | apply Still.step))⟩, by simp [intOf]; omega⟩
    · go_wp2
      go_ret
      exact ⟨ret_bool (by rw [riseB_true (by rw [HN.out, show n = k from by omega]; exact HRI.out)]), (by repeat (first | exact Still.refl _ | apply Still.step))⟩

end Go.Proofs.YtidiinededalmaaGreat
