/-
  Package small: what a row tells, and what nobody's tells.
  Package small: at, Get, Next, Prev.
-/
import Derived.Test.YtfmkhafpbfmadaaGreatSmMem
import Derived.Test.YtfmkhafpbfmadaaGreatSmSearch
namespace Go.Proofs.YtfmkhafpbfmadaaGreat
open Go.RowKit

section
set_option maxRecDepth 100000 in
theorem arr_len : Tryz.prog.arrayLen 132 = 16 := by simp [Program.arrayLen, Tryz.underlying132]
set_option maxRecDepth 100000 in
theorem arr_elem : Tryz.prog.elem 132 = 5 := by simp [Program.elem, Tryz.underlying132]
set_option maxRecDepth 100000 in
theorem arr_und : Tryz.prog.underlying 132 = some (.array (Tryz.prog.arrayLen 132) (Tryz.prog.elem 132)) := by rw [arr_len, arr_elem]; exact Tryz.underlying132
set_option maxRecDepth 100000 in
theorem size_byte (W : World) : (sizeOf 5).run Tryz.prog W = .ok 1 W := by
  obtain ⟨i, hi, _, h1, _⟩ := info_parts (show (Tryz.prog.info? 5).map (fun i => (i.zero, i.size, i.bytes)) = some (some (.int .u8 0), 1, 1) by kernel_rfl)
  simp [sizeOf, typeInfo, hi, h1]
set_option maxRecDepth 100000 in
/-- A part of the sixteen bytes, as a slice. -/
theorem bytes_h (g n : Nat) (hn : n ≤ 16) (W : World) : (Instr.sliceAt 132 (.pointer (some ⟨g, 1, none⟩)) none (some (.int .i64 (n : Int))) none).run Tryz.prog W = .ok (.slice (some ⟨g, 1, none⟩) n 16) W := by
  rw [run_sliceAt_array_h W _ ⟨g, 1, none⟩ arr_und .i64 (n : Int) (by omega) (by rw [arr_len]; omega), arr_elem, size_byte, arr_len]
  simp [slicedAt, Addr.add]
set_option maxRecDepth 100000 in
theorem bytes_lh (g l n : Nat) (hl : l ≤ n) (hn : n ≤ 16) (W : World) : (Instr.sliceAt 132 (.pointer (some ⟨g, 1, none⟩)) (some (.int .i64 (l : Int))) (some (.int .i64 (n : Int))) none).run Tryz.prog W = .ok (.slice (some ⟨g, if 16 = l then 1 else 1 + l, none⟩) (n - l) (16 - l)) W := by
  rw [run_sliceAt_array_lh W _ ⟨g, 1, none⟩ arr_und .i64 .i64 (l : Int) (n : Int) (by omega) (by omega) (by rw [arr_len]; omega), arr_elem, size_byte, arr_len]
  simp only [Result.andThen_ok, slicedAt, Int.toNat_natCast, Nat.mul_one, Addr.add_lit]
  split <;> rfl
set_option maxRecDepth 100000 in
theorem bytes_l (g l : Nat) (hl : l ≤ 16) (W : World) : (Instr.sliceAt 132 (.pointer (some ⟨g, 1, none⟩)) (some (.int .i64 (l : Int))) none none).run Tryz.prog W = .ok (.slice (some ⟨g, if 16 = l then 1 else 1 + l, none⟩) (16 - l) (16 - l)) W := by
  rw [run_sliceAt_array_l W _ ⟨g, 1, none⟩ arr_und .i64 (l : Int) (by omega) (by rw [arr_len]; omega), arr_elem, size_byte, arr_len]
  simp only [Result.andThen_ok, slicedAt, Int.toNat_natCast, Nat.mul_one, Addr.add_lit]
  split <;> rfl
end
section
variable (w : World)
set_option maxRecDepth 100000 in
theorem len_nil : Calls Tryz.prog 112 #[.pointer none] w fun e w' => e = .returned (.int .i64 0) ∧ w' = w := by
  go_enter Tryz.func112, Tryz.ntmps112
  go_wp2
  go_ret
  exact ⟨rfl, rfl⟩
set_option maxRecDepth 100000 in
theorem room_nil : Calls Tryz.prog 115 #[.pointer none] w fun e w' => e = .returned (.int .i64 0) ∧ w' = w := by
  go_enter Tryz.func115, Tryz.ntmps115
  go_wp2
  go_ret
  exact ⟨rfl, rfl⟩
set_option maxRecDepth 100000 in
theorem nobodys_nil : Calls Tryz.prog 87 #[.pointer none] w fun e w' => e = .returned (.bool true) ∧ w' = w := by
  go_enter Tryz.func87, Tryz.ntmps87
  go_wp2
  go_ret
  exact ⟨rfl, rfl⟩
set_option maxRecDepth 100000 in
theorem place_nil (b : Int) : Calls Tryz.prog 117 #[.pointer none, .int .u8 b] w fun e w' => e = .returned (.tuple #[.int .i64 0, .bool false]) ∧ w' = w := by
  go_enter Tryz.func117, Tryz.ntmps117
  go_wp2
  go_ret2
  exact ⟨rfl, rfl⟩
set_option maxRecDepth 100000 in
theorem at_nil (i : Int) : Calls Tryz.prog 118 #[.pointer none, .int .i64 i] w fun e w' => e = .returned (.tuple #[.int .u8 0, .pointer none, .bool false]) ∧ w' = w := by
  by_cases hi : i < 0
  · go_enter Tryz.func118, Tryz.ntmps118
    go_wp2
    go_ret3
    exact ⟨rfl, rfl⟩
  · go_enter Tryz.func118, Tryz.ntmps118
    go_wp2_with (go_at_call 112; refine (len_nil _).mono ?_; rintro e w' ⟨rfl, rfl⟩)
    go_ret3
    exact ⟨rfl, rfl⟩
end

section
variable {w : World} {g room c : Nat} {es : List Ent} {A : Option Addr}
set_option maxRecDepth 100000 in
theorem len_any (h : Rd w g room es A c) : Calls Tryz.prog 112 #[.pointer (some ⟨g, 0, none⟩)] w fun e w' => e = .returned (.int .i64 (es.length : Int)) ∧ w' = w := by
  have h1 := h.sl
  clear h
  generalize es.length = n at h1 ⊢
  go_enter Tryz.func112, Tryz.ntmps112
  go_wp2
  go_ret
  exact ⟨rfl, rfl⟩
set_option maxRecDepth 100000 in
theorem room_any (h : Rd w g room es A c) : Calls Tryz.prog 115 #[.pointer (some ⟨g, 0, none⟩)] w fun e w' => e = .returned (.int .i64 (room : Int)) ∧ w' = w := by
  have h1 := h.room
  clear h
  go_enter Tryz.func115, Tryz.ntmps115
  go_wp2
  go_ret
  exact ⟨rfl, rfl⟩
set_option maxRecDepth 100000 in
theorem nobodys_any (h : Rd w g room es A c) : Calls Tryz.prog 87 #[.pointer (some ⟨g, 0, none⟩)] w fun e w' => e = .returned (.bool (decide (room = 0))) ∧ w' = w := by
  have h1 := h.room
  clear h
  go_enter Tryz.func87, Tryz.ntmps87
  go_wp2
  go_ret
  exact ⟨by by_cases q : room = 0 <;> simp [q], rfl⟩
set_option maxRecDepth 100000 in
theorem place_any (h : Rd w g room es A c) (b : UInt8) : Calls Tryz.prog 117 #[.pointer (some ⟨g, 0, none⟩), .int .u8 (b.toNat : Int)] w fun e w' =>
    e = .returned (.tuple #[.int .i64 (pos es b.toNat : Nat), .bool (hasE es b.toNat)]) ∧ Still w w' := by
  have h1 := h.sl
  have hf := h.few
  have hsl := bytes_h g es.length hf
  have C := Lib.hid (fun n k => search_any g 1 es.length k es b (w.drewN n) rfl hf h.byt h.up)
  clear h
  generalize pos es b.toNat = p at C ⊢
  generalize hasE es b.toNat = q at C ⊢
  generalize es.length = n at h1 hf C hsl ⊢
  go_enter Tryz.func117, Tryz.ntmps117
  go_wp2_with fail
  go_quiet ((go_at_call 120; exact quiet_st1 (C.out _ _)))
  go_wp2
  go_ret2
  exact ⟨rfl, ⟨_, rfl⟩⟩
end
end Go.Proofs.YtfmkhafpbfmadaaGreat

namespace Go.Proofs.YtfmkhafpbfmadaaGreat
open Go.RowKit

/-- The one at a place. -/
def atI (es : List Ent) (i : Int) : Option Ent := if i < 0 then none else es[i.toNat]?
abbrev entV (o : Option Ent) : Value := .tuple #[.int .u8 (eb o), ev (ex o), .bool o.isSome]

section
variable {w : World} {g room c : Nat} {es : List Ent} {A : Option Addr}
set_option maxRecDepth 100000 in
theorem sat_any (h : Rd w g room es A c) (i : Int) : Calls Tryz.prog 118 #[.pointer (some ⟨g, 0, none⟩), .int .i64 i] w fun e w' => e = .returned (entV (atI es i)) ∧ Still w w' := by
  have L := Lib.hid (fun n => len_any (h.drewN n))
  by_cases hi : i < 0
  · have E := Lib.hid (show atI es i = none by simp [atI, hi])
    clear h
    go_enter Tryz.func118, Tryz.ntmps118
    go_wp2
    go_ret3
    exact ⟨by rw [E.out]; rfl, Still.refl _⟩
  · obtain ⟨k, rfl⟩ : ∃ k : Nat, i = (k : Int) := ⟨i.toNat, by omega⟩
    have hf := h.few
    by_cases hk : k < es.length
    · obtain ⟨x, hx⟩ : ∃ x, es[k]? = some x := ⟨es[k], List.getElem?_eq_getElem hk⟩
      have E := Lib.hid (show atI es (k : Int) = some x by simp [atI, hi, hx])
      obtain ⟨t, rfl, hc2⟩ := h.th k x hx
      have hc1 := h.byt k x hx
      have hc0 := h.sl
      have L0 := Lib.hid (len_any h)
      clear h L
      clear hx
      generalize hnn : es.length = n at hc0 hk hf L0
      clear hnn
      obtain ⟨u, hu⟩ : ∃ u : Int, (x.1.toNat : Int) = u := ⟨_, rfl⟩
      have EU := Lib.hid hu
      rw [hu] at hc1
      clear hu
      go_enter Tryz.func118, Tryz.ntmps118
      go_wp2_with fail
      (with_reducible refine L0.out.mono ?_)
      rintro e w' ⟨rfl, rfl⟩
      go_wp2_with fail
      go_quiet (fail)
      go_wp2
      go_ret3
      refine ⟨?_, ⟨_, rfl⟩⟩
      rw [E.out]
      show _ = Ending.returned (.tuple #[.int .u8 ((x.1.toNat : Nat) : Int), .pointer x.2, .bool true])
      rw [EU.out]
      rfl
    · have E := Lib.hid (show atI es (k : Int) = none by simp [atI, hi]; omega)
      have L0 := Lib.hid (len_any h)
      clear h L
      generalize hnn : es.length = n at hk hf L0
      clear hnn
      go_enter Tryz.func118, Tryz.ntmps118
      go_wp2_with fail
      (with_reducible refine L0.out.mono ?_)
      rintro e w' ⟨rfl, rfl⟩
      go_wp2
      go_ret3
      exact ⟨by rw [E.out]; rfl, Still.refl _⟩

set_option maxRecDepth 100000 in
theorem sget_any (h : Rd w g room es A c) (b : UInt8) : Calls Tryz.prog 111 #[.pointer (some ⟨g, 0, none⟩), .int .u8 (b.toNat : Int)] w fun e w' => e = .returned (.tuple #[ev (getE es b.toNat), .bool (hasE es b.toNat)]) ∧ Still w w' := by
  have C := Lib.hid (place_any h b)
  cases hb : hasE es b.toNat with
  | false =>
    have E := Lib.hid (show getE es b.toNat = none by unfold getE; rw [(has_no hb).1]; rfl)
    rw [hb] at C
    clear h
    generalize pos es b.toNat = p at C
    go_enter Tryz.func111, Tryz.ntmps111
    go_wp2_with fail
    (with_reducible refine C.out.mono ?_)
    rintro e w' ⟨rfl, q, rfl⟩
    go_wp2
    go_ret2
    refine ⟨?_, ⟨_, rfl⟩⟩
    rw [E.out]
    rfl
  | true =>
    obtain ⟨x, hx, hxb, hlk, hlt⟩ := has_at hb
    have E := Lib.hid (show getE es b.toNat = x.2 by unfold getE; rw [hlk]; rfl)
    rw [hb] at C
    obtain ⟨t, rfl, hc2⟩ := h.th _ x hx
    have hc0 := h.sl
    have hf := h.few
    clear h
    clear hx hlk
    generalize hpp : pos es b.toNat = p at C hc2 hlt
    generalize hnn : es.length = n at hc0 hlt hf
    clear hpp hnn
    go_enter Tryz.func111, Tryz.ntmps111
    go_wp2_with fail
    (with_reducible refine C.out.mono ?_)
    rintro e w' ⟨rfl, q, rfl⟩
    go_wp2
    go_ret2
    refine ⟨?_, ⟨_, rfl⟩⟩
    rw [E.out]
    rfl
set_option maxRecDepth 100000 in
theorem place_z (h : Rd w g room es A c) (b : UInt8) (z : Int) (hz : z = (b.toNat : Int)) : Calls Tryz.prog 117 #[.pointer (some ⟨g, 0, none⟩), .int .u8 z] w fun e w' =>
    e = .returned (.tuple #[.int .i64 (pos es b.toNat : Nat), .bool (hasE es b.toNat)]) ∧ Still w w' := by rw [hz]; exact place_any h b
set_option maxRecDepth 100000 in
theorem snext_any (h : Rd w g room es A c) (a : Int) (ha : -9223372036854775808 ≤ a) : Calls Tryz.prog 113 #[.pointer (some ⟨g, 0, none⟩), .int .i64 a] w fun e w' => e = .returned (entV (nextE es a)) ∧ Still w w' := by
  by_cases h1 : 255 < a
  · have E := Lib.hid (show nextE es a = atI es (-1) by simp [nextE, atI, h1])
    have C := Lib.hid (sat_any h (-1))
    clear h
    go_enter Tryz.func113, Tryz.ntmps113
    go_wp2_with fail
    (with_reducible refine C.out.mono ?_)
    rintro e w' ⟨rfl, q, rfl⟩
    go_wp2
    go_ret3
    exact ⟨by rw [E.out]; rfl, ⟨_, rfl⟩⟩
  · obtain ⟨b, hb⟩ : ∃ b : UInt8, b.toNat = a.toNat := ⟨UInt8.ofNat a.toNat, by rw [UInt8.toNat_ofNat']; omega⟩
    have E := Lib.hid (show nextE es a = atI es ((pos es b.toNat : Nat) : Int) by unfold nextE atI; rw [if_neg h1, if_neg (by omega), hb]; rfl)
    have C := Lib.hid (fun (z : Int) (hz : z = (b.toNat : Int)) => place_z h b z hz)
    have D := Lib.hid (fun n => sat_any (h.drewN n) ((pos es b.toNat : Nat) : Int))
    have HB := Lib.hid (show (b.toNat : Int) = max a 0 by omega)
    clear h hb
    generalize pos es b.toNat = p at C D E
    generalize hasE es b.toNat = q at C
    by_cases hz : a ≤ 0
    · go_enter Tryz.func113, Tryz.ntmps113
      go_wp2_with fail
      all_goals
        (with_reducible refine (C.out _ (by rw [HB.out]; omega)).mono ?_)
        rintro e w' ⟨rfl, q, rfl⟩
        go_wp2_with fail
        (with_reducible refine (D.out _).mono ?_)
        rintro e w' ⟨rfl, q, rfl⟩
        go_wp2
        go_ret3
        exact ⟨by rw [E.out]; rfl, by repeat (first | exact Still.refl _ | apply Still.step)⟩
    · have ew : IntKind.u8.wrap a = a := by rw [IntKind.wrap_u8]; omega
      go_enter Tryz.func113, Tryz.ntmps113
      go_wp2_with fail
      all_goals
        (with_reducible refine (C.out _ (by rw [HB.out]; omega)).mono ?_)
        rintro e w' ⟨rfl, q, rfl⟩
        go_wp2_with fail
        (with_reducible refine (D.out _).mono ?_)
        rintro e w' ⟨rfl, q, rfl⟩
        go_wp2
        go_ret3
        exact ⟨by rw [E.out]; rfl, by repeat (first | exact Still.refl _ | apply Still.step)⟩

end
end Go.Proofs.YtfmkhafpbfmadaaGreat
