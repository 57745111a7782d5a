/-
  What keys.Next and the document's Next answer: the next one of a prefix, and whether there is one.
  What keys.Text, Parse, May and the document's answer.
  What keys.Parse, keys.May and the document's Parse answer.
  The calls at each statement's end (alive), and far.
  Pairs in memory, and what keys.Sorted and the document's Sorted answer: does each pair's key stand ahead of the next one's?
-/
import Derived.Test.YtajpipaooaemdaaGreatDoorCmp
import Derived.Test.YtajpipaooaemdaaGreatDoorMem
import Derived.IntWalk
import Derived.Laws.BitsAllLaws
import Derived.Laws.IdiomStrings
import Derived.Laws.BytesArg
namespace Go.Proofs.YtajpipaooaemdaaGreatDoor
open Go.RowKit

/-- What Next leaves: the next one of l in memory of its own, or nil. -/
def NextPost (w : World) (l : List UInt8) (e : Ending) (w' : World) : Prop :=
  ∃ A n c, e = .returned (.tuple #[.slice A n c, .bool (nextB l)]) ∧ Byt w' w'.heap.size A n (nextL l) ∧ Below w.heap.size w w'

theorem NextPost.none_ {w w' : World} {l : List UInt8} (h : rais l = 0) (hb : Below w.heap.size w w') : NextPost w l (.returned (.tuple #[.slice none 0 0, .bool false])) w' := by
  refine ⟨none, 0, 0, ?_, ?_, hb⟩
  · have : nextB l = false := by simp [nextB, h]
    rw [this]
  · rw [nextL_none h]; exact Byt.none_
end Go.Proofs.YtajpipaooaemdaaGreatDoor

namespace Go.Proofs.YtajpipaooaemdaaGreatDoor
open Go.RowKit

/-- What digit answers. -/
def digitV (c : Nat) : Int := if hexN c < 16 then (hexN c : Int) else 0
def digitB (c : Nat) : Bool := decide (hexN c < 16)

theorem all_extract : ∀ h : Fin 16, (ByteArray.mk #[48, 49, 50, 51, 52, 53, 54, 55, 56, 57, 97, 98, 99, 100, 101, 102]).extract h.val (h.val + 1) = ByteArray.mk #[digU h.val] := by decide +kernel
theorem all_at : ∀ h : Fin 16, (ByteArray.mk #[48, 49, 50, 51, 52, 53, 54, 55, 56, 57, 97, 98, 99, 100, 101, 102]).data[h.val]? = some (digU h.val) := by decide +kernel
set_option maxRecDepth 100000 in
theorem slice_all (h : Nat) (hh : h < 16) (W : World) : (Instr.slice 9 (.string (ByteArray.mk #[48, 49, 50, 51, 52, 53, 54, 55, 56, 57, 97, 98, 99, 100, 101, 102])) (some (.int .i64 (h : Int))) (some (.int .i64 ((h : Int) + 1))) none).run Tryz.prog W = .ok (.string (ByteArray.mk #[digU h])) W := by
  have e := all_extract ⟨h, hh⟩
  have := run_slice_string (P := Tryz.prog) (w := W) 9 (ByteArray.mk #[48, 49, 50, 51, 52, 53, 54, 55, 56, 57, 97, 98, 99, 100, 101, 102]) .i64 .i64 (h : Int) ((h : Int) + 1) Tryz.underlying9 (by omega) (by omega) (by show (h : Int) + 1 ≤ 16; omega)
  rw [this]
  congr 2

set_option maxRecDepth 100000 in
set_option maxHeartbeats 400000 in
theorem digits_any (u : UInt8) (w : World) :
    Calls Tryz.prog 77 #[.int .u8 (u.toNat : Int)] w fun e w' => e = .returned (.string ⟨#[digU (u.toNat / 16), digU (u.toNat % 16)]⟩) ∧ Still w w' := by
  have hu : u.toNat < 256 := u.toNat_lt
  obtain ⟨h, hh⟩ : ∃ h, u.toNat / 16 = h := ⟨_, rfl⟩
  obtain ⟨l, hl⟩ : ∃ l, u.toNat % 16 = l := ⟨_, rfl⟩
  rw [hh, hl]
  have b1 : h < 16 := by omega
  have b2 : l < 16 := by omega
  have q1 : (u.toNat : Int) / 16 = h := by omega
  have q2 : (u.toNat : Int) % 16 = l := by omega
  have s1 := slice_all h b1
  have s2 := slice_all l b2
  have w1 : IntKind.i64.wrap ((h : Int) + 1) = (h : Int) + 1 := IntWalk.i64_in _ (by omega)
  have w2 : IntKind.i64.wrap ((l : Int) + 1) = (l : Int) + 1 := IntWalk.i64_in _ (by omega)
  clear hh hl
  go_enter Tryz.func77, Tryz.ntmps77
  go_wp2
  go_quiet (fail)
  go_wp2
  go_ret
  exact ⟨rfl, (by repeat (first | exact Still.refl _ | apply Still.step))⟩

/-- The string of bytes l. -/
def bstr (l : List UInt8) : ByteArray := ⟨l.toArray⟩
theorem bstr_toList (l : List UInt8) : (bstr l).data.toList = l := by simp [bstr]
theorem text_snoc {l : List UInt8} {k : Nat} {u : UInt8} (hu : l[k]? = some u) : textL (l.take (k + 1)) = textL (l.take k) ++ [digU (u.toNat / 16), digU (u.toNat % 16)] := by
  have hk : k < l.length := (List.getElem?_eq_some_iff.1 hu).1
  have e : l[k] = u := (List.getElem?_eq_some_iff.1 hu).2
  rw [List.take_succ_eq_append_getElem hk, textL_append, e]
  rfl
theorem bstr_snoc {l : List UInt8} {k : Nat} {u : UInt8} (hu : l[k]? = some u) : bstr (textL (l.take k)) ++ (ByteArray.mk #[digU (u.toNat / 16), digU (u.toNat % 16)]) = bstr (textL (l.take (k + 1))) := by
  rw [text_snoc hu]
  apply ByteArray.ext
  simp [bstr]
theorem val_str {a b : ByteArray} (h : a = b) : Value.string a = .string b := by rw [h]
theorem ret_str {a b : ByteArray} (h : a = b) : Ending.returned (.string a) = .returned (.string b) := by rw [h]

set_option maxRecDepth 100000 in
set_option maxHeartbeats 400000 in
theorem rtext_any (A : Option Addr) (n c B : Nat) (l : List UInt8) (w : World) (ha : Byt w B A n l) (hn : n ≤ 70000) :
    Calls Tryz.prog 56 #[.slice A n c] w fun e w' => e = .returned (.string (bstr (textL l))) ∧ Still w w' := by
  have HN := Lib.hid ha.1
  go_enter Tryz.func56, Tryz.ntmps56
  go_wp2
  go_loopw [3, 4] (fun s i wr => ∃ k : Nat, k ≤ n ∧ i = .int .i64 k ∧ s = .string (bstr (textL (l.take k))) ∧ Still w wr) (fun _ i _ => n - (intOf i).toNat)
  case atStart => exact ⟨0, Nat.zero_le _, rfl, rfl, Still.refl _⟩
  case round =>
    obtain ⟨k, hk, rfl, rfl, q, rfl⟩ := hrel
    by_cases h1 : k < n
    · obtain ⟨ad, u, rfl, hu1, hu2, hu3⟩ := ha.at_ h1
      have HU := Lib.hid hu2
      clear hu2
      have hsz : (bstr (textL (l.take k))).size ≤ 140000 := by
        show (textL (l.take k)).toArray.size ≤ _
        rw [List.size_toArray, textL_length, List.length_take]; omega
      go_wp2_with (go_at_call 77; refine (digits_any u _).mono ?_; rintro e w' ⟨rfl, q', rfl⟩)
      exact ⟨⟨k + 1, by omega, by go_num, val_str (bstr_snoc HU.out), (by repeat (first | exact Still.refl _ | apply Still.step))⟩, by simp [intOf]; omega⟩
    · go_wp2
      go_ret
      exact ⟨ret_str (by rw [List.take_of_length_le (by have := HN.out; omega)]), (by repeat (first | exact Still.refl _ | apply Still.step))⟩

theorem conv_byt {P : Program} {w : World} {B n : Nat} {A : Option Addr} {l : List UInt8} {src dst e : TypeId} (hs : P.underlying src = some (.slice e)) (he : P.underlying e = some (.int .u8)) (hd : P.underlying dst = some .string)
    (h : Byt w B A n l) (c : Nat) : (convert src dst (.slice A n c)).run P w = .ok (.string (bstr l)) w := by
  have hl := h.1
  rcases A with _ | ad
  · have hn : n = 0 := by
      rcases Nat.eq_zero_or_pos n with h0 | h0
      · exact h0
      · obtain ⟨ad, q, _⟩ := h.2.2 h0; cases q
    subst hn
    have : l = [] := List.eq_nil_of_length_eq_zero hl
    subst this
    exact run_convert_bytes_nil w src e hs he 0 c dst hd
  · subst hl
    refine run_convert_bytes_back w src dst e ad c l hs he hd (fun j hj => ?_)
    obtain ⟨ad', q, _, hc⟩ := h.2.2 (by omega)
    injection q with q
    subst q
    exact hc j _ (List.getElem?_eq_getElem hj)

/-- The row that Text fills, behind k bytes. -/
def rowT (l : List UInt8) (n k : Nat) : List UInt8 := textL (l.take k) ++ List.replicate (2 * (n - k)) 0

theorem rowT_length {l : List UInt8} {n k : Nat} (hn : l.length = n) (hk : k ≤ n) : (rowT l n k).length = 2 * n := by
  simp [rowT, textL_length]; omega
theorem rowT_at {l : List UInt8} {n k : Nat} (hn : l.length = n) (hk : k < n) : (rowT l n k)[2 * k]? = some 0 ∧ (rowT l n k)[2 * k + 1]? = some 0 := by
  have e : (textL (l.take k)).length = 2 * k := by rw [textL_length, List.length_take]; omega
  unfold rowT
  constructor
  · rw [List.getElem?_append_right (by omega), e, List.getElem?_replicate, if_pos (by omega)]
  · rw [List.getElem?_append_right (by omega), e, List.getElem?_replicate, if_pos (by omega)]
theorem rowT_step {l : List UInt8} {n k : Nat} {u : UInt8} (hn : l.length = n) (hu : l[k]? = some u) : ((rowT l n k).set (2 * k) (digU (u.toNat / 16))).set (2 * k + 1) (digU (u.toNat % 16)) = rowT l n (k + 1) := by
  have hk : k < l.length := (List.getElem?_eq_some_iff.1 hu).1
  have e : (textL (l.take k)).length = 2 * k := by rw [textL_length, List.length_take]; omega
  unfold rowT
  rw [text_snoc hu]
  obtain ⟨m, hm⟩ : ∃ m, n - k = m + 1 := ⟨n - k - 1, by omega⟩
  have hm' : n - (k + 1) = m := by omega
  rw [hm, hm', show 2 * (m + 1) = 2 * m + 1 + 1 from by omega, List.replicate_succ, List.replicate_succ]
  rw [List.set_append_right _ _ (by omega), e, Nat.sub_self, List.set_append_right _ _ (by omega), e, show 2 * k + 1 - 2 * k = 1 from by omega]
  simp
theorem and15 (u : UInt8) : bits .and .u8 (u.toNat : Int) 15 = ((u.toNat % 16 : Nat) : Int) := by
  have := u8_and_nat u.toNat 15 u.toNat_lt (by omega)
  rw [show ((15 : Nat) : Int) = 15 from rfl] at this
  rw [this, show (15 : Nat) = 2 ^ 4 - 1 from rfl, Nat.and_two_pow_sub_one_eq_mod]
theorem all_get (h : Nat) (hh : h < 16) : (ByteArray.mk #[48, 49, 50, 51, 52, 53, 54, 55, 56, 57, 97, 98, 99, 100, 101, 102])[h]'(by show h < 16; exact hh) = digU h := by
  have := all_at ⟨h, hh⟩
  simp only at this
  have h2 := (Array.getElem?_eq_some_iff.1 this).2
  exact h2

set_option maxRecDepth 100000 in
set_option maxHeartbeats 1000000 in
theorem text_any (A : Option Addr) (n c B : Nat) (l : List UInt8) (w : World) (ha : Byt w B A n l) (hB : B ≤ w.heap.size) (hn : n ≤ 70000) :
    Calls Tryz.prog 40 #[.slice A n c] w fun e w' => e = .returned (.string (bstr (textL l))) ∧ Below w.heap.size w w' := by
  have HN := Lib.hid ha.1
  have hmk : ∀ W : World, (Instr.makeSlice 23 (.int .i64 (2 * (n : Int))) (.int .i64 (2 * (n : Int)))).run Tryz.prog W = .ok (.slice (some ⟨W.heap.size, 0, none⟩) (2 * n) (2 * n)) (W.alloc (.cells (bvs (List.replicate (2 * n) 0)) 5)) := make_bytes (P := Tryz.prog) Tryz.underlying23 info_u8 (2 * n) (by omega)
  go_enter Tryz.func40, Tryz.ntmps40
  go_wp2
  go_loopw [11] (fun i wr => ∃ k : Nat, k ≤ n ∧ i = .int .i64 k ∧ Row wr w.heap.size 5 (rowT l n k) ∧ Below w.heap.size w wr) (fun i _ => n - (intOf i).toNat)
  case atStart => exact ⟨0, Nat.zero_le _, rfl, by simpa [rowT, textL] using Row.new w 5 (List.replicate (2 * n) 0), (Below.refl _ _).alloc (Nat.le_refl _) _⟩
  case round =>
    clear hmk
    obtain ⟨k, hk, rfl, hrow, hbel⟩ := hrel
    by_cases h1 : k < n
    · obtain ⟨ad, u, rfl, hu1, hu2, hu3⟩ := ((ha.more hB).below hbel).at_ h1
      have HU := Lib.hid hu2
      clear hu2
      have hc1 := hrow.cell (rowT_at HN.out h1).1
      have hc2 : ∀ v : Value, (wr.setCell ⟨w.heap.size, 2 * k, none⟩ v).cell? ⟨w.heap.size, 2 * k + 1, none⟩ = some (.int .u8 0) := fun v => by
        rw [World.cell?_setCell_other _ _ _ _ (by simp)]
        exact hrow.cell (rowT_at HN.out h1).2
      have hf1 := hrow.frozen (2 * k)
      have hf2 := hrow.frozen (2 * k + 1)
      have hc3 : ∀ v : Value, (wr.setCell ⟨w.heap.size, 2 * k, none⟩ v).cell? (ad.add k) = some (.int .u8 (u.toNat : Int)) := fun v => by
        rw [World.cell?_setCell_other _ _ _ _ (fun q => by have := congrArg Addr.block q; rw [block_of_add] at this; simp at this; omega)]
        exact hu3
      have hul : u.toNat < 256 := u.toNat_lt
      have q1 := all_get (u.toNat / 16) (by omega)
      have q2 := all_get (u.toNat % 16) (by omega)
      have q3 := and15 u
      have HR := Lib.hid hrow
      have HB := Lib.hid hbel
      clear hrow hbel
      go_wp2
      exact ⟨⟨k + 1, by omega, by go_num, by rw [← rowT_step HN.out HU.out]; exact (HR.out.set_ _ _).set_ _ _, (HB.out.setCell (p := ⟨_, _, none⟩) (Nat.le_refl _) _).setCell (p := ⟨_, _, none⟩) (Nat.le_refl _) _⟩, by simp [intOf]; omega⟩
    · have hk' : k = n := by omega
      subst hk'
      have hby := hrow.byt (n := 2 * k) (B := w.heap.size + 1) (rowT_length HN.out (Nat.le_refl _)) (by unfold maxLen; omega) (by omega)
      have hcv := conv_byt (P := Tryz.prog) (src := 23) (dst := 9) (e := 5) Tryz.underlying23 Tryz.underlying5 Tryz.underlying9 hby (2 * k)
      have HB := Lib.hid hbel
      clear hrow hby hbel
      go_wp2
      go_ret
      exact ⟨ret_str (by unfold rowT; rw [Nat.sub_self, List.take_of_length_le (by have := HN.out; omega)]; simp), HB.out⟩
end Go.Proofs.YtajpipaooaemdaaGreatDoor

namespace Go.Proofs.YtajpipaooaemdaaGreatDoor
open Go.RowKit

/-- What Parse leaves. -/
def ParsePost (w : World) (s : List UInt8) (e : Ending) (w' : World) : Prop :=
  ∃ A n c, e = .returned (.tuple #[.slice A n c, .int .i64 (parseR s).2]) ∧ Byt w' w'.heap.size A n (parseR s).1 ∧ Below w.heap.size w w'

theorem ParsePost.none_ {w w' : World} {s : List UInt8} {x : Int} (h : parseR s = ([], x)) (hb : Below w.heap.size w w') : ParsePost w s (.returned (.tuple #[.slice none 0 0, .int .i64 x])) w' := by
  refine ⟨none, 0, 0, ?_, ?_, hb⟩
  · rw [h]
  · rw [h]; exact Byt.none_
/-- The row that Parse fills. -/
def rowP (d : List UInt8) (m k : Nat) : List UInt8 := d ++ List.replicate (m - k) 0
set_option maxRecDepth 100000 in
set_option maxHeartbeats 400000 in
theorem may_any (A : Option Addr) (n c : Nat) (w : World) (hn : n ≤ 9223372036854775807) :
    Calls Tryz.prog 46 #[.slice A n c] w fun e w' => e = .returned (.int .i64 (if n ≤ 65535 then 0 else 8)) ∧ w = w' := by
  go_enter Tryz.func46, Tryz.ntmps46
  go_wp2
  · go_ret
    exact ⟨ret_int (by first | rfl | rw [if_neg (by omega)]), rfl⟩
  · go_ret
    exact ⟨ret_int (by first | rfl | rw [if_pos (by omega)]), rfl⟩

end Go.Proofs.YtajpipaooaemdaaGreatDoor

namespace Go.Proofs.YtajpipaooaemdaaGreatDoor
open Go.RowKit

def farB (vs : List (Option Addr × Nat × Nat)) : Bool := vs.any fun v => decide (300 < v.2.1)
def slv (v : Option Addr × Nat × Nat) : Value := .slice v.1 v.2.1 v.2.2
end Go.Proofs.YtajpipaooaemdaaGreatDoor

namespace Go.Proofs.YtajpipaooaemdaaGreatDoor
open Go.RowKit

/-- A pair as it lies in memory: its key's slice, the key's bytes, its value. -/
structure PV where
  A : Option Addr
  n : Nat
  c : Nat
  key : List UInt8
  val : Int

/-- The slice value '.slice A n c' holds the pairs ps, and lies below block B, as their keys do. -/
def Prs (w : World) (B : Nat) (A : Option Addr) (n : Nat) (ps : List PV) : Prop :=
  ps.length = n ∧ n ≤ maxLen ∧ (∀ (j : Nat) (p : PV), ps[j]? = some p → Byt w B p.A p.n p.key) ∧
    (0 < n → ∃ ad, A = some ad ∧ ad.block < B ∧ ∀ (j : Nat) (p : PV), ps[j]? = some p → w.cell? (ad.add (j * 2)) = some (.slice p.A p.n p.c) ∧ w.cell? (ad.add (j * 2 + 1)) = some (.int .u64 p.val))

section
variable {w w' : World} {B B' n : Nat} {A : Option Addr} {ps : List PV}
theorem Prs.none_ : Prs w B A 0 [] := ⟨rfl, by unfold maxLen; omega, fun j p h => by simp at h, fun h => absurd h (by omega)⟩
theorem Prs.keep (h : Prs w B A n ps) (hk : ∀ p : Addr, p.block < B → w'.cell? p = w.cell? p) : Prs w' B A n ps :=
  ⟨h.1, h.2.1, fun j p hp => (h.2.2.1 j p hp).keep hk, fun hn => by
    obtain ⟨ad, e, hb, hc⟩ := h.2.2.2 hn
    exact ⟨ad, e, hb, fun j p hp => ⟨(hk _ (by rw [block_of_add]; exact hb)).trans (hc j p hp).1, (hk _ (by rw [block_of_add]; exact hb)).trans (hc j p hp).2⟩⟩⟩
theorem Prs.below (h : Prs w B A n ps) (hb : Below B w w') : Prs w' B A n ps := h.keep fun _ hp => hb.cell hp
theorem Prs.more (h : Prs w B A n ps) (hB : B ≤ B') : Prs w B' A n ps :=
  ⟨h.1, h.2.1, fun j p hp => (h.2.2.1 j p hp).more hB, fun hn => by
    obtain ⟨ad, e, hb, hc⟩ := h.2.2.2 hn
    exact ⟨ad, e, by omega, hc⟩⟩
theorem Prs.at_ {k : Nat} (h : Prs w B A n ps) (hk : k < n) : ∃ (ad : Addr) (p : PV), A = some ad ∧ ad.block < B ∧ ps[k]? = some p ∧ w.cell? (ad.add (k * 2)) = some (.slice p.A p.n p.c) ∧ w.cell? (ad.add (k * 2 + 1)) = some (.int .u64 p.val) ∧ Byt w B p.A p.n p.key := by
  obtain ⟨ad, e, hb, hc⟩ := h.2.2.2 (by omega)
  have hl : k < ps.length := by have := h.1; omega
  have hp := List.getElem?_eq_getElem hl
  exact ⟨ad, ps[k], e, hb, hp, (hc k _ hp).1, (hc k _ hp).2, h.2.2.1 k _ hp⟩
end

/-- Each key stands ahead of the next one, up to the place k. -/
def RiseTo (ks : List (List UInt8)) (k : Nat) : Prop := ∀ (j : Nat) (a b : List UInt8), j + 1 < k → ks[j]? = some a → ks[j + 1]? = some b → cmpL a b < 0
def riseB : List (List UInt8) → Bool
  | a :: b :: r => decide (cmpL a b < 0) && riseB (b :: r)
  | _ => true
theorem riseB_true {ks : List (List UInt8)} (h : RiseTo ks ks.length) : riseB ks = true := by
  induction ks with
  | nil => rfl
  | cons a r ih => cases r with
    | nil => rfl
    | cons b r =>
      have h0 := h 0 a b (by simp) rfl rfl
      have h1 := ih (fun j x y hj hx hy => h (j + 1) x y (by simp at hj ⊢; omega) (by simpa using hx) (by simpa using hy))
      simp [riseB, h0, h1]
theorem riseB_false {ks : List (List UInt8)} {k : Nat} {a b : List UInt8} (ha : ks[k]? = some a) (hb : ks[k + 1]? = some b) (h : 0 ≤ cmpL a b) : riseB ks = false := by
  induction ks generalizing k with
  | nil => simp at ha
  | cons x r ih => cases r with
    | nil => simp at hb
    | cons y r =>
      cases k with
      | zero =>
        simp at ha hb
        subst ha hb
        have : ¬ cmpL x y < 0 := by omega
        simp [riseB, this]
      | succ k => simp only [riseB]; rw [ih (by simpa using ha) (by simpa using hb), Bool.and_false]
theorem RiseTo.zero (ks : List (List UInt8)) : RiseTo ks 1 := fun j a b hj => by omega
theorem RiseTo.start (ks : List (List UInt8)) : RiseTo ks 0 := fun j a b hj => by omega
theorem RiseTo.succ {ks : List (List UInt8)} {k : Nat} {a b : List UInt8} (h : RiseTo ks (k + 1)) (ha : ks[k]? = some a) (hb : ks[k + 1]? = some b) (hab : cmpL a b < 0) : RiseTo ks (k + 2) := fun j x y hj hx hy => by
  by_cases e : j = k
  · subst e; rw [ha] at hx; rw [hb] at hy; injection hx with hx; injection hy with hy; subst hx hy; exact hab
  · exact h j x y (by omega) hx hy

theorem key_at {ps : List PV} {k : Nat} {p : PV} (h : ps[k]? = some p) : (ps.map PV.key)[k]? = some p.key := by simp [h]

set_option maxRecDepth 100000 in
set_option maxHeartbeats 1000000 in
theorem sorted_any (A : Option Addr) (n c B : Nat) (ps : List PV) (w : World) (ha : Prs w B A n ps) (hn : n ≤ 1000) :
    Calls Tryz.prog 47 #[.slice A n c] w fun e w' => e = .returned (.bool (riseB (ps.map PV.key))) ∧ Still w w' := by
  have HN := Lib.hid (show (ps.map PV.key).length = n from by simpa using ha.1)
  have HP := Lib.hid ha
  clear ha
  go_enter Tryz.func47, Tryz.ntmps47
  go_wp2
  go_loopw [6] (fun i wr => ∃ k : Nat, k ≤ n ∧ i = .int .i64 k ∧ RiseTo (ps.map PV.key) k ∧ Still w wr) (fun i _ => n - (intOf i).toNat)
  case atStart => exact ⟨0, Nat.zero_le _, rfl, RiseTo.start _, Still.refl _⟩
  case round =>
    obtain ⟨k, hk, rfl, hri, q, rfl⟩ := hrel
    have HRI := Lib.hid hri
    clear hri
    by_cases h1 : k < n
    · cases k with
      | zero =>
        have d0 : decide ((0 : Int) < 0) = false := by simp
        go_wp2
        go_quiet (fail)
        go_wp2
        exact ⟨⟨1, by omega, rfl, RiseTo.zero _, (by repeat (first | exact Still.refl _ | apply Still.step))⟩, by simp [intOf]; omega⟩
      | succ k =>
        obtain ⟨ad, p, rfl, _, hp, hc1, _, hb1⟩ := HP.out.at_ (k := k) (by omega)
        obtain ⟨ad', p', q', _, hp', hc2, _, hb2⟩ := HP.out.at_ (k := k + 1) h1
        injection q' with q'
        subst q'
        have HX := Lib.hid hp
        have HY := Lib.hid hp'
        have HB1 := Lib.hid hb1
        have HB2 := Lib.hid hb2
        clear hp hp' hb1 hb2
        go_wp2
        have e1 : IntKind.i64.wrap (k : Int) = k := IntWalk.i64_in _ (by omega)
        have i1 : (0 : Int) ≤ (k : Int) + 1 := by omega
        have i2 : ((k : Int) + 1).toNat = k + 1 := by omega
        have i3 : (k : Int) + 1 < (n : Int) := by omega
        have i4 : (k : Int) < (n : Int) := by omega
        go_quiet ((go_at_call 66; exact quiet_st2 (cmp_any _ _ _ _ _ _ B p.key p'.key _ (HB1.out.drewN _) (HB2.out.drewN _))))
        clear e1 i1 i2 i3 i4
        go_wp2
        · go_ret
          exact ⟨ret_bool (by rw [riseB_false (key_at HX.out) (key_at HY.out) (by omega)]), (by repeat (first | exact Still.refl _ | apply Still.step))⟩
        · exact ⟨⟨k + 2, by omega, by go_num, HRI.out.succ (key_at HX.out) (key_at HY.out) (by omega), (by repeat (first | exact Still.refl _ | apply Still.step))⟩, by simp [intOf]; omega⟩
    · go_wp2
      go_ret
      exact ⟨ret_bool (by rw [riseB_true (by rw [HN.out, show n = k from by omega]; exact HRI.out)]), (by repeat (first | exact Still.refl _ | apply Still.step))⟩

end Go.Proofs.YtajpipaooaemdaaGreatDoor
