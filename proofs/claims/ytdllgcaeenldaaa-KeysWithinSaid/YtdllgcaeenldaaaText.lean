/-
  What keys.Text, Parse, May and the document's answer.
-/
import Derived.Test.YtdllgcaeenldaaaNext
import Derived.Test.YtdllgcaeenldaaaTextPure
import Derived.IntWalk
import Derived.Laws.BitsAllLaws
import Derived.Laws.IdiomStrings
import Derived.Laws.BytesArg
namespace Go.Proofs.Ytdllgcaeenldaaa
open Go.RowKit

theorem hex_lo {c : Nat} (h1 : 48 ≤ c) (h2 : c ≤ 57) : hexN c = c - 48 := by unfold hexN; rw [if_pos ⟨h1, h2⟩]
theorem hex_hi {c : Nat} (h1 : 97 ≤ c) (h2 : c ≤ 102) : hexN c = c - 87 := by unfold hexN; rw [if_neg (by omega), if_pos ⟨h1, h2⟩]
theorem hex_no {c : Nat} (h1 : ¬ (48 ≤ c ∧ c ≤ 57)) (h2 : ¬ (97 ≤ c ∧ c ≤ 102)) : hexN c = 16 := by unfold hexN; rw [if_neg h1, if_neg h2]

/-- What digit answers. -/
def digitV (c : Nat) : Int := if hexN c < 16 then (hexN c : Int) else 0
def digitB (c : Nat) : Bool := decide (hexN c < 16)

theorem dg_lo {c : Nat} (h1 : (48 : Int) ≤ c) (h2 : (c : Int) ≤ 57) : (c : Int) - 48 = digitV c ∧ true = digitB c := by
  unfold digitV digitB; rw [hex_lo (by omega) (by omega), if_pos (by omega)]; exact ⟨by omega, by symm; rw [decide_eq_true_eq]; omega⟩
theorem dg_hi {c : Nat} (h1 : (97 : Int) ≤ c) (h2 : (c : Int) ≤ 102) : (c : Int) - 97 + 10 = digitV c ∧ true = digitB c := by
  unfold digitV digitB; rw [hex_hi (by omega) (by omega), if_pos (by omega)]; exact ⟨by omega, by symm; rw [decide_eq_true_eq]; omega⟩
theorem dg_no {c : Nat} (h1 : ¬ (48 ≤ c ∧ c ≤ 57)) (h2 : ¬ (97 ≤ c ∧ c ≤ 102)) : 0 = digitV c ∧ false = digitB c := by
  unfold digitV digitB; rw [hex_no h1 h2]; exact ⟨rfl, rfl⟩
theorem ret_dg {a b : Int} {x y : Bool} (h : a = b ∧ x = y) : Ending.returned (.tuple #[.int .u8 a, .bool x]) = .returned (.tuple #[.int .u8 b, .bool y]) := by rw [h.1, h.2]

set_option maxHeartbeats 400000 in
theorem digit_any (u : UInt8) (w : World) :
    Calls Try.prog 29 #[.int .u8 (u.toNat : Int)] w fun e w' => e = .returned (.tuple #[.int .u8 (digitV u.toNat), .bool (digitB u.toNat)]) ∧ w = w' := by
  have hu : u.toNat < 256 := u.toNat_lt
  generalize u.toNat = c at hu
  go_enter Try.func29, Try.ntmps29
  go_wp2
  all_goals go_ret2
  · exact ⟨ret_dg (dg_lo (by omega) (by omega)), rfl⟩
  · exact ⟨ret_dg (dg_hi (by omega) (by omega)), rfl⟩
  · exact ⟨ret_dg (dg_no (by omega) (by omega)), rfl⟩
  · exact ⟨ret_dg (dg_no (by omega) (by omega)), rfl⟩
  · exact ⟨ret_dg (dg_no (by omega) (by omega)), rfl⟩
set_option maxHeartbeats 400000 in
theorem value_any (u : UInt8) (w : World) :
    Calls Try.prog 30 #[.int .u8 (u.toNat : Int)] w fun e w' => e = .returned (.int .u8 (hexN u.toNat : Int)) ∧ w = w' := by
  have hu : u.toNat < 256 := u.toNat_lt
  generalize u.toNat = c at hu
  go_enter Try.func30, Try.ntmps30
  go_wp2
  all_goals go_ret
  · exact ⟨ret_int (by rw [hex_lo (by omega) (by omega)]; omega), rfl⟩
  · exact ⟨ret_int (by rw [hex_hi (by omega) (by omega)]; omega), rfl⟩
  · exact ⟨ret_int (by rw [hex_no (by omega) (by omega)]; rfl), rfl⟩
  · exact ⟨ret_int (by rw [hex_no (by omega) (by omega)]; rfl), rfl⟩
  · exact ⟨ret_int (by rw [hex_no (by omega) (by omega)]; rfl), rfl⟩

theorem all_extract : ∀ h : Fin 16, (ByteArray.mk #[48, 49, 50, 51, 52, 53, 54, 55, 56, 57, 97, 98, 99, 100, 101, 102]).extract h.val (h.val + 1) = ByteArray.mk #[digU h.val] := by decide +kernel
theorem all_at : ∀ h : Fin 16, (ByteArray.mk #[48, 49, 50, 51, 52, 53, 54, 55, 56, 57, 97, 98, 99, 100, 101, 102]).data[h.val]? = some (digU h.val) := by decide +kernel
theorem slice_all (h : Nat) (hh : h < 16) (W : World) : (Instr.slice 9 (.string (ByteArray.mk #[48, 49, 50, 51, 52, 53, 54, 55, 56, 57, 97, 98, 99, 100, 101, 102])) (some (.int .i64 (h : Int))) (some (.int .i64 ((h : Int) + 1))) none).run Try.prog W = .ok (.string (ByteArray.mk #[digU h])) W := by
  have e := all_extract ⟨h, hh⟩
  have := run_slice_string (P := Try.prog) (w := W) 9 (ByteArray.mk #[48, 49, 50, 51, 52, 53, 54, 55, 56, 57, 97, 98, 99, 100, 101, 102]) .i64 .i64 (h : Int) ((h : Int) + 1) Try.underlying9 (by omega) (by omega) (by show (h : Int) + 1 ≤ 16; omega)
  rw [this]
  congr 2

set_option maxHeartbeats 400000 in
theorem digits_any (u : UInt8) (w : World) :
    Calls Try.prog 31 #[.int .u8 (u.toNat : Int)] w fun e w' => e = .returned (.string ⟨#[digU (u.toNat / 16), digU (u.toNat % 16)]⟩) ∧ Still w w' := by
  have hu : u.toNat < 256 := u.toNat_lt
  obtain ⟨h, hh⟩ : ∃ h, u.toNat / 16 = h := ⟨_, rfl⟩
  obtain ⟨l, hl⟩ : ∃ l, u.toNat % 16 = l := ⟨_, rfl⟩
  rw [hh, hl]
  have b1 : h < 16 := by omega
  have b2 : l < 16 := by omega
  have q1 : (u.toNat : Int) / 16 = h := by omega
  have q2 : (u.toNat : Int) % 16 = l := by omega
  have s1 := slice_all h b1
  have s2 := slice_all l b2
  have w1 : IntKind.i64.wrap ((h : Int) + 1) = (h : Int) + 1 := IntWalk.i64_in _ (by omega)
  have w2 : IntKind.i64.wrap ((l : Int) + 1) = (l : Int) + 1 := IntWalk.i64_in _ (by omega)
  clear hh hl
  go_enter Try.func31, Try.ntmps31
  go_wp2
  go_quiet (fail)
  go_wp2
  go_ret
  exact ⟨rfl, (by repeat (first | exact Still.refl _ | apply Still.step))⟩

/-- The string of bytes l. -/
def bstr (l : List UInt8) : ByteArray := ⟨l.toArray⟩
theorem bstr_toList (l : List UInt8) : (bstr l).data.toList = l := by simp [bstr]
theorem bstr_of (s : ByteArray) : bstr s.data.toList = s := by simp [bstr]
theorem text_snoc {l : List UInt8} {k : Nat} {u : UInt8} (hu : l[k]? = some u) : textL (l.take (k + 1)) = textL (l.take k) ++ [digU (u.toNat / 16), digU (u.toNat % 16)] := by
  have hk : k < l.length := (List.getElem?_eq_some_iff.1 hu).1
  have e : l[k] = u := (List.getElem?_eq_some_iff.1 hu).2
  rw [List.take_succ_eq_append_getElem hk, textL_append, e]
  rfl
theorem bstr_snoc {l : List UInt8} {k : Nat} {u : UInt8} (hu : l[k]? = some u) : bstr (textL (l.take k)) ++ (ByteArray.mk #[digU (u.toNat / 16), digU (u.toNat % 16)]) = bstr (textL (l.take (k + 1))) := by
  rw [text_snoc hu]
  apply ByteArray.ext
  simp [bstr]
theorem val_str {a b : ByteArray} (h : a = b) : Value.string a = .string b := by rw [h]
theorem ret_str {a b : ByteArray} (h : a = b) : Ending.returned (.string a) = .returned (.string b) := by rw [h]

set_option maxHeartbeats 400000 in
theorem rtext_any (A : Option Addr) (n c B : Nat) (l : List UInt8) (w : World) (ha : Byt w B A n l) (hn : n ≤ 70000) :
    Calls Try.prog 24 #[.slice A n c] w fun e w' => e = .returned (.string (bstr (textL l))) ∧ Still w w' := by
  have HN := Lib.hid ha.1
  go_enter Try.func24, Try.ntmps24
  go_wp2
  go_loopw [3, 4] (fun s i wr => ∃ k : Nat, k ≤ n ∧ i = .int .i64 k ∧ s = .string (bstr (textL (l.take k))) ∧ Still w wr) (fun _ i _ => n - (intOf i).toNat)
  case atStart => exact ⟨0, Nat.zero_le _, rfl, rfl, Still.refl _⟩
  case round =>
    obtain ⟨k, hk, rfl, rfl, q, rfl⟩ := hrel
    by_cases h1 : k < n
    · obtain ⟨ad, u, rfl, hu1, hu2, hu3⟩ := ha.at_ h1
      have HU := Lib.hid hu2
      clear hu2
      have hsz : (bstr (textL (l.take k))).size ≤ 140000 := by
        show (textL (l.take k)).toArray.size ≤ _
        rw [List.size_toArray, textL_length, List.length_take]; omega
      go_wp2_with (go_at_call 31; refine (digits_any u _).mono ?_; rintro e w' ⟨rfl, q', rfl⟩)
      exact ⟨⟨k + 1, by omega, by go_num, val_str (bstr_snoc HU.out), (by repeat (first | exact Still.refl _ | apply Still.step))⟩, by simp [intOf]; omega⟩
    · go_wp2
      go_ret
      exact ⟨ret_str (by rw [List.take_of_length_le (by have := HN.out; omega)]), (by repeat (first | exact Still.refl _ | apply Still.step))⟩

theorem conv_byt {P : Program} {w : World} {B n : Nat} {A : Option Addr} {l : List UInt8} {src dst e : TypeId} (hs : P.underlying src = some (.slice e)) (he : P.underlying e = some (.int .u8)) (hd : P.underlying dst = some .string)
    (h : Byt w B A n l) (c : Nat) : (convert src dst (.slice A n c)).run P w = .ok (.string (bstr l)) w := by
  have hl := h.1
  rcases A with _ | ad
  · have hn : n = 0 := by
      rcases Nat.eq_zero_or_pos n with h0 | h0
      · exact h0
      · obtain ⟨ad, q, _⟩ := h.2.2 h0; cases q
    subst hn
    have : l = [] := List.eq_nil_of_length_eq_zero hl
    subst this
    exact run_convert_bytes_nil w src e hs he 0 c dst hd
  · subst hl
    refine run_convert_bytes_back w src dst e ad c l hs he hd (fun j hj => ?_)
    obtain ⟨ad', q, _, hc⟩ := h.2.2 (by omega)
    injection q with q
    subst q
    exact hc j _ (List.getElem?_eq_getElem hj)

/-- The row that Text fills, behind k bytes. -/
def rowT (l : List UInt8) (n k : Nat) : List UInt8 := textL (l.take k) ++ List.replicate (2 * (n - k)) 0

theorem rowT_length {l : List UInt8} {n k : Nat} (hn : l.length = n) (hk : k ≤ n) : (rowT l n k).length = 2 * n := by
  simp [rowT, textL_length]; omega
theorem rowT_at {l : List UInt8} {n k : Nat} (hn : l.length = n) (hk : k < n) : (rowT l n k)[2 * k]? = some 0 ∧ (rowT l n k)[2 * k + 1]? = some 0 := by
  have e : (textL (l.take k)).length = 2 * k := by rw [textL_length, List.length_take]; omega
  unfold rowT
  constructor
  · rw [List.getElem?_append_right (by omega), e, List.getElem?_replicate, if_pos (by omega)]
  · rw [List.getElem?_append_right (by omega), e, List.getElem?_replicate, if_pos (by omega)]
theorem rowT_step {l : List UInt8} {n k : Nat} {u : UInt8} (hn : l.length = n) (hu : l[k]? = some u) : ((rowT l n k).set (2 * k) (digU (u.toNat / 16))).set (2 * k + 1) (digU (u.toNat % 16)) = rowT l n (k + 1) := by
  have hk : k < l.length := (List.getElem?_eq_some_iff.1 hu).1
  have e : (textL (l.take k)).length = 2 * k := by rw [textL_length, List.length_take]; omega
  unfold rowT
  rw [text_snoc hu]
  obtain ⟨m, hm⟩ : ∃ m, n - k = m + 1 := ⟨n - k - 1, by omega⟩
  have hm' : n - (k + 1) = m := by omega
  rw [hm, hm', show 2 * (m + 1) = 2 * m + 1 + 1 from by omega, List.replicate_succ, List.replicate_succ]
  rw [List.set_append_right _ _ (by omega), e, Nat.sub_self, List.set_append_right _ _ (by omega), e, show 2 * k + 1 - 2 * k = 1 from by omega]
  simp
theorem and15 (u : UInt8) : bits .and .u8 (u.toNat : Int) 15 = ((u.toNat % 16 : Nat) : Int) := by
  have := u8_and_nat u.toNat 15 u.toNat_lt (by omega)
  rw [show ((15 : Nat) : Int) = 15 from rfl] at this
  rw [this, show (15 : Nat) = 2 ^ 4 - 1 from rfl, Nat.and_two_pow_sub_one_eq_mod]
theorem all_get (h : Nat) (hh : h < 16) : (ByteArray.mk #[48, 49, 50, 51, 52, 53, 54, 55, 56, 57, 97, 98, 99, 100, 101, 102])[h]'(by show h < 16; exact hh) = digU h := by
  have := all_at ⟨h, hh⟩
  simp only at this
  have h2 := (Array.getElem?_eq_some_iff.1 this).2
  exact h2

set_option maxHeartbeats 1000000 in
theorem text_any (A : Option Addr) (n c B : Nat) (l : List UInt8) (w : World) (ha : Byt w B A n l) (hB : B ≤ w.heap.size) (hn : n ≤ 70000) :
    Calls Try.prog 23 #[.slice A n c] w fun e w' => e = .returned (.string (bstr (textL l))) ∧ Below w.heap.size w w' := by
  have HN := Lib.hid ha.1
  have hmk : ∀ W : World, (Instr.makeSlice 22 (.int .i64 (2 * (n : Int))) (.int .i64 (2 * (n : Int)))).run Try.prog W = .ok (.slice (some ⟨W.heap.size, 0, none⟩) (2 * n) (2 * n)) (W.alloc (.cells (bvs (List.replicate (2 * n) 0)) 5)) := make_bytes (P := Try.prog) Try.underlying22 info_u8 (2 * n) (by omega)
  go_enter Try.func23, Try.ntmps23
  go_wp2
  go_loopw [11] (fun i wr => ∃ k : Nat, k ≤ n ∧ i = .int .i64 k ∧ Row wr w.heap.size 5 (rowT l n k) ∧ Below w.heap.size w wr) (fun i _ => n - (intOf i).toNat)
  case atStart => exact ⟨0, Nat.zero_le _, rfl, by simpa [rowT, textL] using Row.new w 5 (List.replicate (2 * n) 0), (Below.refl _ _).alloc (Nat.le_refl _) _⟩
  case round =>
    clear hmk
    obtain ⟨k, hk, rfl, hrow, hbel⟩ := hrel
    by_cases h1 : k < n
    · obtain ⟨ad, u, rfl, hu1, hu2, hu3⟩ := ((ha.more hB).below hbel).at_ h1
      have HU := Lib.hid hu2
      clear hu2
      have hc1 := hrow.cell (rowT_at HN.out h1).1
      have hc2 : ∀ v : Value, (wr.setCell ⟨w.heap.size, 2 * k, none⟩ v).cell? ⟨w.heap.size, 2 * k + 1, none⟩ = some (.int .u8 0) := fun v => by
        rw [World.cell?_setCell_other _ _ _ _ (by simp)]
        exact hrow.cell (rowT_at HN.out h1).2
      have hf1 := hrow.frozen (2 * k)
      have hf2 := hrow.frozen (2 * k + 1)
      have hc3 : ∀ v : Value, (wr.setCell ⟨w.heap.size, 2 * k, none⟩ v).cell? (ad.add k) = some (.int .u8 (u.toNat : Int)) := fun v => by
        rw [World.cell?_setCell_other _ _ _ _ (fun q => by have := congrArg Addr.block q; rw [block_of_add] at this; simp at this; omega)]
        exact hu3
      have hul : u.toNat < 256 := u.toNat_lt
      have q1 := all_get (u.toNat / 16) (by omega)
      have q2 := all_get (u.toNat % 16) (by omega)
      have q3 := and15 u
      have HR := Lib.hid hrow
      have HB := Lib.hid hbel
      clear hrow hbel
      go_wp2
      exact ⟨⟨k + 1, by omega, by go_num, by rw [← rowT_step HN.out HU.out]; exact (HR.out.set_ _ _).set_ _ _, (HB.out.setCell (p := ⟨_, _, none⟩) (Nat.le_refl _) _).setCell (p := ⟨_, _, none⟩) (Nat.le_refl _) _⟩, by simp [intOf]; omega⟩
    · have hk' : k = n := by omega
      subst hk'
      have hby := hrow.byt (n := 2 * k) (B := w.heap.size + 1) (rowT_length HN.out (Nat.le_refl _)) (by unfold maxLen; omega) (by omega)
      have hcv := conv_byt (P := Try.prog) (src := 22) (dst := 9) (e := 5) Try.underlying22 Try.underlying5 Try.underlying9 hby (2 * k)
      have HB := Lib.hid hbel
      clear hrow hby hbel
      go_wp2
      go_ret
      exact ⟨ret_str (by unfold rowT; rw [Nat.sub_self, List.take_of_length_le (by have := HN.out; omega)]; simp), HB.out⟩
end Go.Proofs.Ytdllgcaeenldaaa
