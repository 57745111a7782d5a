/-
  What tuple.Cmp and the document's Cmp answer: the order of two tuples.
-/
import Derived.Test.YtofccfbiappgaaaDoorTup
import Derived.Test.YtofccfbiappgaaaDoorPureB
import Derived.Test.YtofccfbiappgaaaDoorFieldCmp
import Derived.Scope
import Derived.Laws.Cover1
namespace Go.Proofs.YtofccfbiappgaaaDoor
open Go.RowKit

set_option maxRecDepth 100000 in
set_option maxHeartbeats 4000000 in
theorem rtcmp_any (A A1 A2 : Option Addr) (n c n1 c1 n2 c2 B : Nat) (fs : List Fd) (a b : List Vl) (w : World) (ha : Fds w B A n fs) (hb : Vls w B A1 n1 a) (hd : Vls w B A2 n2 b) (hB : B ≤ w.heap.size) :
    Calls Tryd.prog 28 #[.slice A n c, .slice A1 n1 c1, .slice A2 n2 c2] w fun e w' => e = .returned (.int .i64 (cmpT fs a b)) ∧ Below w.heap.size w w' := by
  have HN := Lib.hid (And.intro ha.length (And.intro hb.length hd.length))
  have HA := Lib.hid (fun V (h : Below w.heap.size w V) => And.intro ((ha.more hB).below h) (And.intro ((hb.more hB).below h) ((hd.more hB).below h)))
  have hm : n ≤ 9223372036854775807 := by have := ha.2.1; unfold maxLen at this; omega
  have hm1 : n1 ≤ 9223372036854775807 := by obtain ⟨_, q, _⟩ := hb; have := q.2.1; unfold maxLen at this; omega
  have hm2 : n2 ≤ 9223372036854775807 := by obtain ⟨_, q, _⟩ := hd; have := q.2.1; unfold maxLen at this; omega
  clear ha hb hd
  go_enter Tryd.func28, Tryd.ntmps28
  go_wp2
  go_loopw [7] (fun i wr => ∃ k : Nat, k ≤ n ∧ i = .int .i64 k ∧ Hid (cmpT fs a b = cmpT (fs.drop k) (a.drop k) (b.drop k)) ∧ Hid (Below w.heap.size w wr)) (fun i _ => n - (intOf i).toNat)
  case atStart => exact ⟨0, Nat.zero_le _, rfl, rfl, Below.refl _ _⟩
  case round =>
    obtain ⟨k, hk, rfl, HK, HB⟩ := hrel
    by_cases h1 : k < n ∧ k < n1 ∧ k < n2
    · obtain ⟨h1, h11, h12⟩ := h1
      obtain ⟨ad, f, rfl, hlt, hf, c0, c1⟩ := (HA.out _ HB.out).1.at_ h1
      obtain ⟨ad1, x, Ax, mx, cx, rfl, hltx, hx, p0, p1, p2, p3, yx, _⟩ := (HA.out _ HB.out).2.1.at_ h11
      obtain ⟨ad2, y, Ay, my, cy, rfl, hlty, hy, q0, q1, q2, q3, yy, _⟩ := (HA.out _ HB.out).2.2.at_ h12
      have HF := Lib.hid (And.intro hf (And.intro hx hy))
      have hsz := HB.out.size
      have hb2 : (ad.add (k * 2)).block < wr.heap.size := by rw [block_of_add]; omega
      have hbx : (ad1.add (k * 4)).block < wr.heap.size := by rw [block_of_add]; omega
      have hby : (ad2.add (k * 4)).block < wr.heap.size := by rw [block_of_add]; omega
      have HX := Lib.hid (show Calls Tryd.prog 40 #[.agg #[.int .i64 f.k, .bool f.f], .agg #[.int .u64 (x.u : Int), .int .i64 x.i, .slice Ax mx cx, .bool x.t], .agg #[.int .u64 (y.u : Int), .int .i64 y.i, .slice Ay my cy, .bool y.t]] wr.drew (fun e w' => e = .returned (.int .i64 (oneC f x y)) ∧ Below wr.drew.heap.size wr.drew w') from
        rfcmp_any f.k f.f x.u y.u x.i y.i Ax Ay mx my cx cy w.heap.size x.l y.l x.t y.t wr.drew yx.drew yy.drew HB.out.size)
      clear hf hx hy yx yy
      have d1 : (k : Int) < (n : Int) := by omega
      have d2 : (k : Int) < (n1 : Int) := by omega
      have d3 : (k : Int) < (n2 : Int) := by omega
      have HO := Lib.hid (oneC_cases f x y)
      generalize hX : oneC f x y = X at HX HO
      have HXX := Lib.hid hX
      clear hX
      go_wp2_with fail
      go_region_held3 (fun w' => (w'.cell? (ad.add (k * 2)) = some (.int .i64 f.k) ∧ w'.cell? ⟨(ad.add (k * 2)).block, (ad.add (k * 2)).off + 1, none⟩ = some (.bool f.f)) ∧ (w'.cell? (ad1.add (k * 4)) = some (.int .u64 (x.u : Int)) ∧ w'.cell? ⟨(ad1.add (k * 4)).block, (ad1.add (k * 4)).off + 1, none⟩ = some (.int .i64 x.i) ∧ w'.cell? ⟨(ad1.add (k * 4)).block, (ad1.add (k * 4)).off + 2, none⟩ = some (.slice Ax mx cx) ∧ w'.cell? ⟨(ad1.add (k * 4)).block, (ad1.add (k * 4)).off + 3, none⟩ = some (.bool x.t)) ∧ (w'.cell? (ad2.add (k * 4)) = some (.int .u64 (y.u : Int)) ∧ w'.cell? ⟨(ad2.add (k * 4)).block, (ad2.add (k * 4)).off + 1, none⟩ = some (.int .i64 y.i) ∧ w'.cell? ⟨(ad2.add (k * 4)).block, (ad2.add (k * 4)).off + 2, none⟩ = some (.slice Ay my cy) ∧ w'.cell? ⟨(ad2.add (k * 4)).block, (ad2.add (k * 4)).off + 3, none⟩ = some (.bool y.t)))
        (first
          | go_keep
          | exact ⟨⟨(h2.cell (p := ad.add (k * 2)) hb2).trans c0, (h2.cell (p := ⟨(ad.add (k * 2)).block, (ad.add (k * 2)).off + 1, none⟩) hb2).trans c1⟩, ⟨(h2.cell (p := ad1.add (k * 4)) hbx).trans p0, (h2.cell (p := ⟨(ad1.add (k * 4)).block, (ad1.add (k * 4)).off + 1, none⟩) hbx).trans p1, (h2.cell (p := ⟨(ad1.add (k * 4)).block, (ad1.add (k * 4)).off + 2, none⟩) hbx).trans p2, (h2.cell (p := ⟨(ad1.add (k * 4)).block, (ad1.add (k * 4)).off + 3, none⟩) hbx).trans p3⟩, ⟨(h2.cell (p := ad2.add (k * 4)) hby).trans q0, (h2.cell (p := ⟨(ad2.add (k * 4)).block, (ad2.add (k * 4)).off + 1, none⟩) hby).trans q1, (h2.cell (p := ⟨(ad2.add (k * 4)).block, (ad2.add (k * 4)).off + 2, none⟩) hby).trans q2, (h2.cell (p := ⟨(ad2.add (k * 4)).block, (ad2.add (k * 4)).off + 3, none⟩) hby).trans q3⟩⟩)
        (first | (go_at_call 40; refine HX.out.mono ?_; rintro e w2 ⟨rfl, h2⟩))
      have Z2 := Lib.hid (HB.out.drew.trans (h2.mono HB.out.size))
      clear h2 c0 c1 p0 p1 p2 p3 q0 q1 q2 q3
      by_cases h0 : X = 0
      · subst h0
        go_wp2
        exact ⟨⟨k + 1, by omega, by go_num, cmpT_step HK.out HF.out.1 HF.out.2.1 HF.out.2.2 HXX.out, Z2⟩, by simp [intOf]; omega⟩
      · go_wp2
        go_ret
        exact ⟨ret_int (by rw [cmpT_found HK.out HF.out.1 HF.out.2.1 HF.out.2.2 (by rw [HXX.out]; exact h0), HXX.out]), Z2.out⟩
    · have HD := Lib.hid (cmpT_done HK.out (by have := HN.out; omega))
      by_cases e1 : k < n
      · by_cases e2 : k < n1
        · have e3 : ¬ k < n2 := by omega
          go_wp2
          go_ret
          exact ⟨ret_int HD.out.symm, HB.out⟩
        · go_wp2
          go_ret
          exact ⟨ret_int HD.out.symm, HB.out⟩
      · go_wp2
        go_ret
        exact ⟨ret_int HD.out.symm, HB.out⟩

end Go.Proofs.YtofccfbiappgaaaDoor
