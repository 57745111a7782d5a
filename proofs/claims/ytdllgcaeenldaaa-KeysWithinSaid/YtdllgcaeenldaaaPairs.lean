/-
  Pairs in memory, and what keys.Sorted and the document's Sorted answer: does each pair's key stand ahead of the next one's?
-/
import Derived.Test.YtdllgcaeenldaaaAlive
namespace Go.Proofs.Ytdllgcaeenldaaa
open Go.RowKit

/-- A pair as it lies in memory: its key's slice, the key's bytes, its value. -/
structure PV where
  A : Option Addr
  n : Nat
  c : Nat
  key : List UInt8
  val : Int

/-- The slice value '.slice A n c' holds the pairs ps, and lies below block B, as their keys do. -/
def Prs (w : World) (B : Nat) (A : Option Addr) (n : Nat) (ps : List PV) : Prop :=
  ps.length = n ∧ n ≤ maxLen ∧ (∀ (j : Nat) (p : PV), ps[j]? = some p → Byt w B p.A p.n p.key) ∧
    (0 < n → ∃ ad, A = some ad ∧ ad.block < B ∧ ∀ (j : Nat) (p : PV), ps[j]? = some p → w.cell? (ad.add (j * 2)) = some (.slice p.A p.n p.c) ∧ w.cell? (ad.add (j * 2 + 1)) = some (.int .u64 p.val))

section
variable {w w' : World} {B B' n : Nat} {A : Option Addr} {ps : List PV}
theorem Prs.none_ : Prs w B A 0 [] := ⟨rfl, by unfold maxLen; omega, fun j p h => by simp at h, fun h => absurd h (by omega)⟩
theorem Prs.keep (h : Prs w B A n ps) (hk : ∀ p : Addr, p.block < B → w'.cell? p = w.cell? p) : Prs w' B A n ps :=
  ⟨h.1, h.2.1, fun j p hp => (h.2.2.1 j p hp).keep hk, fun hn => by
    obtain ⟨ad, e, hb, hc⟩ := h.2.2.2 hn
    exact ⟨ad, e, hb, fun j p hp => ⟨(hk _ (by rw [block_of_add]; exact hb)).trans (hc j p hp).1, (hk _ (by rw [block_of_add]; exact hb)).trans (hc j p hp).2⟩⟩⟩
theorem Prs.below (h : Prs w B A n ps) (hb : Below B w w') : Prs w' B A n ps := h.keep fun _ hp => hb.cell hp
theorem Prs.more (h : Prs w B A n ps) (hB : B ≤ B') : Prs w B' A n ps :=
  ⟨h.1, h.2.1, fun j p hp => (h.2.2.1 j p hp).more hB, fun hn => by
    obtain ⟨ad, e, hb, hc⟩ := h.2.2.2 hn
    exact ⟨ad, e, by omega, hc⟩⟩
theorem Prs.at_ {k : Nat} (h : Prs w B A n ps) (hk : k < n) : ∃ (ad : Addr) (p : PV), A = some ad ∧ ad.block < B ∧ ps[k]? = some p ∧ w.cell? (ad.add (k * 2)) = some (.slice p.A p.n p.c) ∧ w.cell? (ad.add (k * 2 + 1)) = some (.int .u64 p.val) ∧ Byt w B p.A p.n p.key := by
  obtain ⟨ad, e, hb, hc⟩ := h.2.2.2 (by omega)
  have hl : k < ps.length := by have := h.1; omega
  have hp := List.getElem?_eq_getElem hl
  exact ⟨ad, ps[k], e, hb, hp, (hc k _ hp).1, (hc k _ hp).2, h.2.2.1 k _ hp⟩
end

/-- Each key stands ahead of the next one, up to the place k. -/
def RiseTo (ks : List (List UInt8)) (k : Nat) : Prop := ∀ (j : Nat) (a b : List UInt8), j + 1 < k → ks[j]? = some a → ks[j + 1]? = some b → cmpL a b < 0
def riseB : List (List UInt8) → Bool
  | a :: b :: r => decide (cmpL a b < 0) && riseB (b :: r)
  | _ => true
theorem riseB_true {ks : List (List UInt8)} (h : RiseTo ks ks.length) : riseB ks = true := by
  induction ks with
  | nil => rfl
  | cons a r ih => cases r with
    | nil => rfl
    | cons b r =>
      have h0 := h 0 a b (by simp) rfl rfl
      have h1 := ih (fun j x y hj hx hy => h (j + 1) x y (by simp at hj ⊢; omega) (by simpa using hx) (by simpa using hy))
      simp [riseB, h0, h1]
theorem riseB_false {ks : List (List UInt8)} {k : Nat} {a b : List UInt8} (ha : ks[k]? = some a) (hb : ks[k + 1]? = some b) (h : 0 ≤ cmpL a b) : riseB ks = false := by
  induction ks generalizing k with
  | nil => simp at ha
  | cons x r ih => cases r with
    | nil => simp at hb
    | cons y r =>
      cases k with
      | zero =>
        simp at ha hb
        subst ha hb
        have : ¬ cmpL x y < 0 := by omega
        simp [riseB, this]
      | succ k => simp only [riseB]; rw [ih (by simpa using ha) (by simpa using hb), Bool.and_false]
theorem RiseTo.zero (ks : List (List UInt8)) : RiseTo ks 1 := fun j a b hj => by omega
theorem RiseTo.start (ks : List (List UInt8)) : RiseTo ks 0 := fun j a b hj => by omega
theorem RiseTo.succ {ks : List (List UInt8)} {k : Nat} {a b : List UInt8} (h : RiseTo ks (k + 1)) (ha : ks[k]? = some a) (hb : ks[k + 1]? = some b) (hab : cmpL a b < 0) : RiseTo ks (k + 2) := fun j x y hj hx hy => by
  by_cases e : j = k
  · subst e; rw [ha] at hx; rw [hb] at hy; injection hx with hx; injection hy with hy; subst hx hy; exact hab
  · exact h j x y (by omega) hx hy

theorem key_at {ps : List PV} {k : Nat} {p : PV} (h : ps[k]? = some p) : (ps.map PV.key)[k]? = some p.key := by simp [h]

set_option maxHeartbeats 1000000 in
theorem sorted_any (A : Option Addr) (n c B : Nat) (ps : List PV) (w : World) (ha : Prs w B A n ps) (hn : n ≤ 1000) :
    Calls Try.prog 26 #[.slice A n c] w fun e w' => e = .returned (.bool (riseB (ps.map PV.key))) ∧ Still w w' := by
  have HN := Lib.hid (show (ps.map PV.key).length = n from by simpa using ha.1)
  have HP := Lib.hid ha
  clear ha
  go_enter Try.func26, Try.ntmps26
  go_wp2
  go_loopw [6] (fun i wr => ∃ k : Nat, k ≤ n ∧ i = .int .i64 k ∧ RiseTo (ps.map PV.key) k ∧ Still w wr) (fun i _ => n - (intOf i).toNat)
  case atStart => exact ⟨0, Nat.zero_le _, rfl, RiseTo.start _, Still.refl _⟩
  case round =>
    obtain ⟨k, hk, rfl, hri, q, rfl⟩ := hrel
    have HRI := Lib.hid hri
    clear hri
    by_cases h1 : k < n
    · cases k with
      | zero =>
        have d0 : decide ((0 : Int) < 0) = false := by simp
        go_wp2
        go_quiet (fail)
        go_wp2
        exact ⟨⟨1, by omega, rfl, RiseTo.zero _, (by repeat (first | exact Still.refl _ | apply Still.step))⟩, by simp [intOf]; omega⟩
      | succ k =>
        obtain ⟨ad, p, rfl, _, hp, hc1, _, hb1⟩ := HP.out.at_ (k := k) (by omega)
        obtain ⟨ad', p', q', _, hp', hc2, _, hb2⟩ := HP.out.at_ (k := k + 1) h1
        injection q' with q'
        subst q'
        have HX := Lib.hid hp
        have HY := Lib.hid hp'
        have HB1 := Lib.hid hb1
        have HB2 := Lib.hid hb2
        clear hp hp' hb1 hb2
        go_wp2
        have e1 : IntKind.i64.wrap (k : Int) = k := IntWalk.i64_in _ (by omega)
        have i1 : (0 : Int) ≤ (k : Int) + 1 := by omega
        have i2 : ((k : Int) + 1).toNat = k + 1 := by omega
        have i3 : (k : Int) + 1 < (n : Int) := by omega
        have i4 : (k : Int) < (n : Int) := by omega
        go_quiet ((go_at_call 9; exact quiet_st2 (cmp_any _ _ _ _ _ _ B p.key p'.key _ (HB1.out.drewN _) (HB2.out.drewN _))))
        clear e1 i1 i2 i3 i4
        go_wp2
        · go_ret
          exact ⟨ret_bool (by rw [riseB_false (key_at HX.out) (key_at HY.out) (by omega)]), (by repeat (first | exact Still.refl _ | apply Still.step))⟩
        · exact ⟨⟨k + 2, by omega, by go_num, HRI.out.succ (key_at HX.out) (key_at HY.out) (by omega), (by repeat (first | exact Still.refl _ | apply Still.step))⟩, by simp [intOf]; omega⟩
    · go_wp2
      go_ret
      exact ⟨ret_bool (by rw [riseB_true (by rw [HN.out, show n = k from by omega]; exact HRI.out)]), (by repeat (first | exact Still.refl _ | apply Still.step))⟩

set_option maxHeartbeats 1000000 in
theorem rsorted_any (A : Option Addr) (n c B : Nat) (ps : List PV) (w : World) (ha : Prs w B A n ps) (hn : n ≤ 1000) :
    Calls Try.prog 27 #[.slice A n c] w fun e w' => e = .returned (.bool (riseB (ps.map PV.key))) ∧ Still w w' := by
  have HN := Lib.hid (show (ps.map PV.key).length = n from by simpa using ha.1)
  have HP := Lib.hid ha
  clear ha
  go_enter Try.func27, Try.ntmps27
  go_wp2
  go_loopw [3] (fun i wr => ∃ k : Nat, k ≤ n ∧ i = .int .i64 (k + 1) ∧ RiseTo (ps.map PV.key) (k + 1) ∧ Still w wr) (fun i _ => n + 1 - (intOf i).toNat)
  case atStart => exact ⟨0, Nat.zero_le _, rfl, RiseTo.zero _, Still.refl _⟩
  case round =>
    obtain ⟨k, hk, rfl, hri, q, rfl⟩ := hrel
    have HRI := Lib.hid hri
    clear hri
    by_cases h1 : k + 1 < n
    · obtain ⟨ad, p, rfl, _, hp, hc1, _, hb1⟩ := HP.out.at_ (k := k) (by omega)
      obtain ⟨ad', p', q', _, hp', hc2, _, hb2⟩ := HP.out.at_ (k := k + 1) h1
      injection q' with q'
      subst q'
      have HX := Lib.hid hp
      have HY := Lib.hid hp'
      have HB1 := Lib.hid hb1
      have HB2 := Lib.hid hb2
      clear hp hp' hb1 hb2
      go_wp2
      have e1 : IntKind.i64.wrap (k : Int) = k := IntWalk.i64_in _ (by omega)
      have i1 : (0 : Int) ≤ (k : Int) + 1 := by omega
      have i2 : ((k : Int) + 1).toNat = k + 1 := by omega
      have i3 : (k : Int) + 1 < (n : Int) := by omega
      have i4 : (k : Int) < (n : Int) := by omega
      go_quiet ((go_at_call 10; exact quiet_st2 (rcmp_any _ _ _ _ _ _ B p.key p'.key _ (HB1.out.drewN _) (HB2.out.drewN _))))
      clear e1 i1 i2 i3 i4
      go_wp2
      · go_ret
        exact ⟨ret_bool (by rw [riseB_false (key_at HX.out) (key_at HY.out) (by omega)]), (by repeat (first | exact Still.refl _ | apply Still.step))⟩
      · exact ⟨⟨k + 1, by omega, by go_num, HRI.out.succ (key_at HX.out) (key_at HY.out) (by omega), (by repeat (first | exact Still.refl _ | apply Still.step))⟩, by simp [intOf]; omega⟩
    · go_wp2
      go_ret
      exact ⟨ret_bool (by rw [riseB_true (fun j a b hj ha hb => HRI.out j a b (by have := HN.out; omega) ha hb)]), (by repeat (first | exact Still.refl _ | apply Still.step))⟩
end Go.Proofs.Ytdllgcaeenldaaa
