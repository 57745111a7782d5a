/-
  What keys.Parse, keys.May and the document's Parse answer.
-/
import Derived.Test.YtdllgcaeenldaaaText
namespace Go.Proofs.Ytdllgcaeenldaaa
open Go.RowKit

/-- What Parse leaves. -/
def ParsePost (w : World) (s : List UInt8) (e : Ending) (w' : World) : Prop :=
  ∃ A n c, e = .returned (.tuple #[.slice A n c, .int .i64 (parseR s).2]) ∧ Byt w' w'.heap.size A n (parseR s).1 ∧ Below w.heap.size w w'

theorem ParsePost.none_ {w w' : World} {s : List UInt8} {x : Int} (h : parseR s = ([], x)) (hb : Below w.heap.size w w') : ParsePost w s (.returned (.tuple #[.slice none 0 0, .int .i64 x])) w' := by
  refine ⟨none, 0, 0, ?_, ?_, hb⟩
  · rw [h]
  · rw [h]; exact Byt.none_
theorem ParsePost.some_ {w w' : World} {s d : List UInt8} {e : TypeId} {g k c : Nat} (h : parseR s = (d, 0)) (hr : Row w' g e d) (hd : d.length = k) (hk : k ≤ maxLen) (hb : Below w.heap.size w w') : ParsePost w s (.returned (.tuple #[.slice (some ⟨g, 0, none⟩) k c, .int .i64 0])) w' := by
  refine ⟨some ⟨g, 0, none⟩, k, c, ?_, ?_, hb⟩
  · rw [h]
  · rw [h]; exact hr.byt hd hk hr.lt
theorem ParsePost.some' {w w' : World} {s d : List UInt8} {e : TypeId} {A : Option Addr} {base k c : Nat} (h : parseR s = (d, 0)) (hr : Mine w' base e (.slice A k c) k d) (hb : Below w.heap.size w w') : ParsePost w s (.returned (.tuple #[.slice A k c, .int .i64 0])) w' := by
  refine ⟨A, k, c, ?_, ?_, hb⟩
  · rw [h]
  · rw [h]; exact hr.byt
theorem or_join {x y : Nat} (hx : x < 16) (hy : y < 16) : bits .or .u8 ((x : Int) * 16) (y : Int) = ((UInt8.ofNat (16 * x + y)).toNat : Int) := by
  have h := u8_or_nat (x * 16) y (by omega) (by omega)
  rw [show (((x * 16 : Nat) : Int)) = (x : Int) * 16 from by omega] at h
  rw [h]
  have e : x * 16 ||| y = 16 * x + y := by
    have := Nat.two_pow_add_eq_or_of_lt (i := 4) (b := y) (by omega) x
    rw [Nat.mul_comm x 16]; exact this.symm
  rw [e, UInt8.toNat_ofNat', Nat.mod_eq_of_lt (by simp; omega)]
theorem parse_big {s : List UInt8} {n : Nat} (h : s.length = n) (h1 : 131071 < n) : parseR s = ([], 8) := by
  unfold parseR; rw [if_pos (by omega)]
theorem parse_odd {s : List UInt8} {n : Nat} (h : s.length = n) (h1 : n ≤ 131071) (h2 : n % 2 = 1) : parseR s = ([], 3) := by
  unfold parseR; rw [if_neg (by omega), if_pos (by omega)]
theorem parse_bad {s : List UInt8} {n k : Nat} {a b : UInt8} (h : s.length = n) (h1 : n ≤ 131071) (ha : s[2 * k]? = some a) (hb : s[2 * k + 1]? = some b) (hx : ¬ (hexN a.toNat < 16 ∧ hexN b.toNat < 16)) : parseR s = ([], 3) := by
  unfold parseR
  rw [if_neg (by omega)]
  split
  · rfl
  · rw [parse_stop ha hb hx]
theorem parse_ok {s d : List UInt8} {n : Nat} (h : s.length = n) (h1 : n ≤ 131071) (h2 : n % 2 = 0) (hp : parseL s = some d) : parseR s = (d, 0) := by
  unfold parseR; rw [if_neg (by omega), if_neg (by omega), hp]

theorem str_at (s : ByteArray) (k : Nat) (h : k < s.size) : s.data.toList[k]? = some s[k] := by
  rw [List.getElem?_eq_getElem (by simpa using h)]; rfl
theorem digitV_of {c : Nat} (h : hexN c < 16) : digitV c = (hexN c : Int) := by unfold digitV; rw [if_pos h]

/-- The row that Parse fills. -/
def rowP (d : List UInt8) (m k : Nat) : List UInt8 := d ++ List.replicate (m - k) 0
theorem rowP_at {d : List UInt8} {m k : Nat} (hd : d.length = k) (hk : k < m) : (rowP d m k)[k]? = some 0 := by
  unfold rowP; rw [List.getElem?_append_right (by omega), hd, Nat.sub_self, List.getElem?_replicate, if_pos (by omega)]
theorem rowP_step {d : List UInt8} {m k : Nat} (u : UInt8) (hd : d.length = k) (hk : k < m) : (rowP d m k).set k u = rowP (d ++ [u]) m (k + 1) := by
  unfold rowP
  obtain ⟨r, hr⟩ : ∃ r, m - k = r + 1 := ⟨m - k - 1, by omega⟩
  rw [hr, show m - (k + 1) = r from by omega, List.replicate_succ, List.set_append_right _ _ (by omega), hd, Nat.sub_self]
  simp

set_option maxHeartbeats 1000000 in
theorem parse_any (s : ByteArray) (w : World) (hs : s.size ≤ 9223372036854775807) :
    Calls Try.prog 21 #[.string s] w (ParsePost w s.data.toList) := by
  have HL := Lib.hid (show s.data.toList.length = s.size from by rw [Array.length_toList]; rfl)
  by_cases h1 : 131071 < s.size
  · have HP := Lib.hid (parse_big HL.out h1)
    go_enter Try.func21, Try.ntmps21
    go_wp2
    go_ret2
    exact ParsePost.none_ HP.out (Below.refl _ _)
  · by_cases h2 : s.size % 2 = 1
    · have HP := Lib.hid (parse_odd HL.out (by omega) h2)
      have e2 : (((s.size : Int) % 2) != 0) = true := by rw [bne_iff_ne]; omega
      clear h2
      go_enter Try.func21, Try.ntmps21
      go_wp2
      go_ret2
      exact ParsePost.none_ HP.out (Below.refl _ _)
    · obtain ⟨m, hm⟩ : ∃ m, s.size = 2 * m := ⟨s.size / 2, by omega⟩
      have HM := Lib.hid hm
      have e2 : (((s.size : Int) % 2) != 0) = false := by simp; omega
      have e3 : ((s.size : Int) / 2) = (m : Int) := by omega
      have hm2 : 2 * m ≤ s.size := by omega
      have hmx : m ≤ 65535 := by omega
      have hmk : ∀ W : World, (Instr.makeSlice 22 (.int .i64 (m : Int)) (.int .i64 (m : Int))).run Try.prog W = .ok (.slice (some ⟨W.heap.size, 0, none⟩) m m) (W.alloc (.cells (bvs (List.replicate m 0)) 5)) := make_bytes (P := Try.prog) Try.underlying22 info_u8 m (by omega)
      clear h2 hm
      go_enter Try.func21, Try.ntmps21
      go_wp2
      clear hmk e2 e3
      go_loopw [23] (fun i wr => ∃ (k : Nat) (d : List UInt8), k ≤ m ∧ i = .int .i64 k ∧ parseL (s.data.toList.take (2 * k)) = some d ∧ d.length = k ∧ Row wr w.heap.size 5 (rowP d m k) ∧ Below w.heap.size w wr) (fun i _ => m - (intOf i).toNat)
      case atStart => exact ⟨0, [], Nat.zero_le _, rfl, rfl, rfl, by simpa [rowP] using Row.new w 5 (List.replicate m 0), (Below.refl _ _).alloc (Nat.le_refl _) _⟩
      case round =>
        obtain ⟨k, d, hk, rfl, hpd, hdl, hrow, hbel⟩ := hrel
        have HPD := Lib.hid hpd
        have HDL := Lib.hid hdl
        clear hpd hdl
        by_cases h3 : k < m
        · have b1 : 2 * k < s.size := by omega
          have b2 : 2 * k + 1 < s.size := by omega
          obtain ⟨a, qa⟩ : ∃ a, s[2 * k] = a := ⟨_, rfl⟩
          obtain ⟨b, qb⟩ : ∃ b, s[2 * k + 1] = b := ⟨_, rfl⟩
          have HA := Lib.hid (show s.data.toList[2 * k]? = some a from by rw [str_at s _ b1, qa])
          have HB := Lib.hid (show s.data.toList[2 * k + 1]? = some b from by rw [str_at s _ b2, qb])
          by_cases hx : hexN a.toNat < 16
          · by_cases hy : hexN b.toNat < 16
            · have d1 : digitB a.toNat = true := by simpa [digitB] using hx
              have d2 : digitB b.toNat = true := by simpa [digitB] using hy
              have v1 := digitV_of hx
              have v2 := digitV_of hy
              have hc1 := hrow.cell (rowP_at HDL.out h3)
              have hf1 := hrow.frozen k
              have HR := Lib.hid hrow
              have HW := Lib.hid hbel
              clear hrow hbel
              go_wp2_with (go_at_call 29; refine (digit_any _ _).mono ?_; rintro e w' ⟨rfl, rfl⟩)
              rw [or_join hx hy]
              exact ⟨⟨k + 1, d ++ [UInt8.ofNat (16 * hexN a.toNat + hexN b.toNat)], by omega, by go_num, parse_snoc HPD.out HDL.out HA.out HB.out hx hy, by have := HDL.out; simp; omega, by rw [← rowP_step _ HDL.out h3]; exact HR.out.set_ _ _, HW.out.setCell (p := ⟨_, _, none⟩) (Nat.le_refl _) _⟩, by simp [intOf]; omega⟩
            · have d1 : digitB a.toNat = true := by simpa [digitB] using hx
              have d2 : digitB b.toNat = false := by simpa [digitB] using hy
              have HP := Lib.hid (parse_bad HL.out (by omega) HA.out HB.out (by omega))
              have HW := Lib.hid hbel
              clear hrow hbel
              go_wp2_with (go_at_call 29; refine (digit_any _ _).mono ?_; rintro e w' ⟨rfl, rfl⟩)
              go_ret2
              exact ParsePost.none_ HP.out HW.out
          · have d1 : digitB a.toNat = false := by simpa [digitB] using hx
            have HP := Lib.hid (parse_bad HL.out (by omega) HA.out HB.out (by omega))
            have HW := Lib.hid hbel
            clear hrow hbel
            go_wp2_with (go_at_call 29; refine (digit_any _ _).mono ?_; rintro e w' ⟨rfl, rfl⟩)
            go_ret2
            exact ParsePost.none_ HP.out HW.out
        · have hkm : k = m := by omega
          subst hkm
          have HR := Lib.hid hrow
          have HW := Lib.hid hbel
          clear hrow hbel
          go_wp2
          go_ret2
          exact ParsePost.some_ (parse_ok HL.out (by omega) (by have := HM.out; omega) (by
            have := HPD.out
            rwa [List.take_of_length_le (by have := HL.out; have := HM.out; omega)] at this)) (by
            have := HR.out
            unfold rowP at this
            rwa [Nat.sub_self, List.replicate_zero, List.append_nil] at this) HDL.out (by unfold maxLen; omega) HW.out

set_option maxHeartbeats 400000 in
theorem may_any (A : Option Addr) (n c : Nat) (w : World) (hn : n ≤ 9223372036854775807) :
    Calls Try.prog 20 #[.slice A n c] w fun e w' => e = .returned (.int .i64 (if n ≤ 65535 then 0 else 8)) ∧ w = w' := by
  go_enter Try.func20, Try.ntmps20
  go_wp2
  · go_ret
    exact ⟨ret_int (by first | rfl | rw [if_neg (by omega)]), rfl⟩
  · go_ret
    exact ⟨ret_int (by first | rfl | rw [if_pos (by omega)]), rfl⟩

set_option maxHeartbeats 1000000 in
theorem rparse_any (s : ByteArray) (w : World) (hs : s.size ≤ 9223372036854775807) :
    Calls Try.prog 22 #[.string s] w (ParsePost w s.data.toList) := by
  have HL := Lib.hid (show s.data.toList.length = s.size from by rw [Array.length_toList]; rfl)
  by_cases h1 : 131071 < s.size
  · have HP := Lib.hid (parse_big HL.out h1)
    go_enter Try.func22, Try.ntmps22
    go_wp2
    go_ret2
    exact ParsePost.none_ HP.out (Below.refl _ _)
  · by_cases h2 : s.size % 2 = 1
    · have HP := Lib.hid (parse_odd HL.out (by omega) h2)
      have e2 : (((s.size : Int) % 2) != 0) = true := by rw [bne_iff_ne]; omega
      clear h2
      go_enter Try.func22, Try.ntmps22
      go_wp2
      go_ret2
      exact ParsePost.none_ HP.out (Below.refl _ _)
    · obtain ⟨m, hm⟩ : ∃ m, s.size = 2 * m := ⟨s.size / 2, by omega⟩
      have HM := Lib.hid hm
      have e2 : (((s.size : Int) % 2) != 0) = false := by simp; omega
      have hm2 : 2 * m ≤ s.size := by omega
      have hm3 : s.size ≤ 2 * m := by omega
      have hmx : m ≤ 65535 := by omega
      clear h2 hm
      go_enter Try.func22, Try.ntmps22
      go_wp2
      clear e2
      go_loopw [4, 5] (fun v i wr => ∃ (k : Nat) (d : List UInt8), k ≤ m ∧ i = .int .i64 (2 * k) ∧ parseL (s.data.toList.take (2 * k)) = some d ∧ d.length = k ∧ Mine wr w.heap.size 5 v k d ∧ Below w.heap.size w wr) (fun _ i _ => 2 * m - (intOf i).toNat)
      case atStart => exact ⟨0, [], Nat.zero_le _, rfl, rfl, rfl, Mine.nil _ _ _, Below.refl _ _⟩
      case round =>
        obtain ⟨k, d, hk, rfl, hpd, hdl, hmine, hbel⟩ := hrel
        have HPD := Lib.hid hpd
        have HDL := Lib.hid hdl
        clear hpd hdl
        by_cases h3 : k < m
        · have b1 : 2 * k < s.size := by omega
          have b2 : 2 * k + 1 < s.size := by omega
          obtain ⟨a, qa⟩ : ∃ a, s[2 * k] = a := ⟨_, rfl⟩
          obtain ⟨b, qb⟩ : ∃ b, s[2 * k + 1] = b := ⟨_, rfl⟩
          have HA := Lib.hid (show s.data.toList[2 * k]? = some a from by rw [str_at s _ b1, qa])
          have HB := Lib.hid (show s.data.toList[2 * k + 1]? = some b from by rw [str_at s _ b2, qb])
          have w1 : IntKind.i64.wrap (2 * (k : Int) + 1) = 2 * (k : Int) + 1 := IntWalk.i64_in _ (by omega)
          have i1 : (0 : Int) ≤ 2 * (k : Int) + 1 := by omega
          have i2 : (2 * (k : Int) + 1).toNat = 2 * k + 1 := by omega
          have i3 : (2 * (k : Int) + 1) < (s.size : Int) := by omega
          have i4 : (0 : Int) ≤ 2 * (k : Int) := by omega
          have i5 : (2 * (k : Int)).toNat = 2 * k := by omega
          have i6 : (2 * (k : Int)) < (s.size : Int) := by omega
          go_wp2
          go_quiet ((go_at_call 30; exact quiet_left (value_any _ _)))
          clear w1 i1 i2 i3 i4 i5 i6 qa qb
          by_cases hx : hexN a.toNat < 16
          · by_cases hy : hexN b.toNat < 16
            · have HX := Lib.hid (show (16 * (hexN a.toNat : Int) + (hexN b.toNat : Int)) = ((UInt8.ofNat (16 * hexN a.toNat + hexN b.toNat)).toNat : Int) from by
                rw [UInt8.toNat_ofNat', Nat.mod_eq_of_lt (by simp; omega)]; omega)
              have HMI := Lib.hid hmine
              have HW := Lib.hid hbel
              clear hmine hbel
              go_wp2_with (
                at_builtin
                refine wpList_append_byt _ rfl (.tmp 37) (.tmp 42) _ rfl Try.underlying22 info_u8 w.heap.size _ k d rfl ((HMI.out.drewN _).alloc _) (wr.heap.size + 1) (some ⟨wr.heap.size, 0, none⟩) 1 1 [UInt8.ofNat (16 * hexN a.toNat + hexN b.toNat)] rfl (byt_one (wr.drewN nq) _ HX.out) (by omega) (by have := HW.out.size; simp; omega) ?_
                intro v1 w1 hm1 hg1 _
                have HM1 := Lib.hid hm1
                have HB1 := Lib.hid (((below_drewN HW.out nq).alloc (by have := HW.out.size; simpa using this) _).grown hg1 (by have := HW.out.size; simp; omega) (fun j hj => (HMI.out.lt j hj).1))
                clear hm1 hg1)
              exact ⟨⟨k + 1, d ++ [UInt8.ofNat (16 * hexN a.toNat + hexN b.toNat)], by omega, by go_num, parse_snoc HPD.out HDL.out HA.out HB.out hx hy, by have := HDL.out; simp; omega, HM1.out, HB1.out⟩, by simp [intOf]; omega⟩
            · have HP := Lib.hid (parse_bad HL.out (by omega) HA.out HB.out (by omega))
              have HW := Lib.hid hbel
              clear hmine hbel
              go_wp2
              go_ret2
              exact ParsePost.none_ HP.out (below_drewN HW.out _)
          · have HP := Lib.hid (parse_bad HL.out (by omega) HA.out HB.out (by omega))
            have HW := Lib.hid hbel
            clear hmine hbel
            go_wp2
            all_goals
              go_ret2
              exact ParsePost.none_ HP.out (below_drewN HW.out _)
        · have hkm : k = m := by omega
          subst hkm
          obtain ⟨A, c, rfl⟩ := hmine.slice
          have HMI := Lib.hid hmine
          have HW := Lib.hid hbel
          clear hmine hbel
          go_wp2
          go_ret2
          exact ParsePost.some' (parse_ok HL.out (by omega) (by have := HM.out; omega) (by
            have := HPD.out
            rwa [List.take_of_length_le (by have := HL.out; have := HM.out; omega)] at this)) HMI.out HW.out
end Go.Proofs.Ytdllgcaeenldaaa
