/-
  What tuple.take answers: a value of each field, and the bytes behind them, or an error.
-/
import Derived.Test.YtdpddkpfllioiaaDoorTupleLaw
import Derived.Test.YtdpddkpfllioiaaDoorFieldTakeB
namespace Go.Proofs.YtdpddkpfllioiaaDoor
open Go.RowKit

/-- What is left where values, bytes and an error are handed back. -/
def TkPost (w : World) (t : Tk) (e : Ending) (w' : World) : Prop := ∃ A n c A' n' c', e = .returned (.tuple #[.slice A n c, .slice A' n' c', .int .i64 t.E]) ∧ Vls w' w'.heap.size A n t.V ∧ n ≤ c ∧ Byt w' w'.heap.size A' n' t.R ∧ n' ≤ c' ∧ Below w.heap.size w w'
theorem TkPost.bad {w w' : World} {t : Tk} {er : Int} (h : t = .bad er) (hb : Below w.heap.size w w') : TkPost w t (.returned (.tuple #[.slice none 0 0, .slice none 0 0, .int .i64 er])) w' := by
  subst h
  exact ⟨none, 0, 0, none, 0, 0, rfl, Vls.none_, Nat.le_refl _, Byt.none_, Nat.le_refl _, hb⟩
theorem TkPost.ok {w w' : World} {t : Tk} {vs : List Vl} {r : List UInt8} {A A' : Option Addr} {n c n' c' : Nat} (h : t = .ok vs r) (hv : Vls w' w'.heap.size A n vs) (hc : n ≤ c) (hr : Byt w' w'.heap.size A' n' r) (hc' : n' ≤ c') (hb : Below w.heap.size w w') : TkPost w t (.returned (.tuple #[.slice A n c, .slice A' n' c', .int .i64 0])) w' := by
  subst h
  exact ⟨A, n, c, A', n', c', rfl, hv, hc, hr, hc', hb⟩
theorem fill_step {o : List Vl} {n k : Nat} {v : Vl} (ho : o.length = k) (hk : k < n) : (o ++ List.replicate (n - k) zV).set k v = (o ++ [v]) ++ List.replicate (n - (k + 1)) zV := by
  have e : n - k = (n - (k + 1)) + 1 := by omega
  rw [e, List.replicate_succ, List.set_append_right _ _ (by omega)]
  simp [ho]

set_option maxRecDepth 100000 in
set_option maxHeartbeats 4000000 in
theorem ttake_any (A A' : Option Addr) (n c n' c' B : Nat) (fs : List Fd) (b : List UInt8) (w : World) (hT : Tab w) (ha : Fds w B A n fs) (hb : Byt w B A' n' b) (hnc : n' ≤ c') (hB : B ≤ w.heap.size) (hn : n ≤ 1000) (hn' : n' ≤ 1000000) :
    Calls Tryd.prog 34 #[.slice A n c, .slice A' n' c'] w (TkPost w (takes fs b)) := by
  have HN := Lib.hid ha.length
  have HA := Lib.hid (fun V (h : Below w.heap.size w V) => And.intro ((ha.more hB).below h) ((hb.more hB).below h))
  have HT := Lib.hid (fun V (h : Below w.heap.size w V) => hT.below h)
  have hmk := fun W => make_vals W hn
  clear ha hb hT
  go_enter Tryd.func34, Tryd.ntmps34
  go_wp2
  clear hmk
  go_loopw [1, 18] (fun vb i wr => ∃ (k : Nat) (Ab : Option Addr) (nb cb : Nat) (o : List Vl) (b' : List UInt8), k ≤ n ∧ i = .int .i64 k ∧ vb = .slice Ab nb cb ∧ nb ≤ cb ∧ nb ≤ n' ∧ Hid (TkAt fs b o k b') ∧ Hid (o.length = k) ∧ Hid (Byt wr wr.heap.size Ab nb b') ∧ Hid (VRow wr w.heap.size 69 (.slice (some ⟨w.heap.size, 0, none⟩) n n) n (o ++ List.replicate (n - k) zV)) ∧ Hid (Below w.heap.size w wr)) (fun _ i _ => n - (intOf i).toNat)
  case atStart =>
    have bw : Below w.heap.size w (w.alloc (.cells (List.replicate n zcs).flatten.toArray 69)) := (Below.refl _ _).alloc (Nat.le_refl _) _
    exact ⟨0, A', n', c', [], b, Nat.zero_le _, rfl, rfl, hnc, Nat.le_refl _, TkAt.start _ _, rfl, ((HA.out _ bw).2.more bw.size), made_row w n hn _, bw⟩
  case round =>
    obtain ⟨k, Ab, nb, cb, o, b', hk, rfl, rfl, hbc, hbn, HK, HO, HY, HR, HB⟩ := hrel
    by_cases h1 : k < n
    · obtain ⟨ad, f, rfl, hlt, hf, c0, c1⟩ := (HA.out _ HB.out).1.at_ h1
      have HF := Lib.hid hf
      have hsz := HB.out.size
      generalize hW : wr.alloc (.cells #[.int .i64 f.k, .bool f.f] 58) = W
      have BW := Lib.hid (show Below wr.heap.size wr W from by subst hW; exact (Below.refl _ _).alloc (Nat.le_refl _) _)
      have HW := Lib.hid (show Below w.heap.size w W from HB.out.trans (BW.out.mono hsz))
      have hF : Two W wr.heap.size (.int .i64 f.k) (.bool f.f) := by subst hW; exact Two.new _ _ _ _
      have hx0 := hF.k0
      have hx1 := hF.k1
      have HX := Lib.hid (show Calls Tryd.prog 50 #[.agg #[.int .i64 f.k, .bool f.f], .slice Ab nb cb] W (FTPost W (takeF f b').u (takeF f b').i (takeF f b').l (takeF f b').t (restF f b') (errF f b')) from
        ftake_any f.k f.f Ab nb cb wr.heap.size b' W (HT.out _ HW.out) (HY.out.below BW.out) hbc BW.out.size (by omega))
      have HRW := Lib.hid (HR.out.below BW.out)
      have HYL := Lib.hid HY.out.1
      clear hf hF
      generalize hX : errF f b' = X at HX
      have HXX := Lib.hid hX
      clear hX
      go_wp2_with fail
      clear hW c0 c1
      (with_reducible refine HX.out.mono ?_)
      rintro e w1 ⟨A1, n1, c1, A2, n2, c2, rfl, y1, y2, h2, nc1, nc2⟩
      have R1 := Lib.hid (HRW.out.below h2)
      have Z1 := Lib.hid (HW.out.trans (h2.mono HW.out.size))
      generalize hV : w1.alloc (.cells #[.int .u64 ((takeF f b').u : Int), .int .i64 (takeF f b').i, .slice A1 n1 c1, .bool (takeF f b').t] 69) = V
      have BV := Lib.hid (show Below w1.heap.size w1 V from by subst hV; exact (Below.refl _ _).alloc (Nat.le_refl _) _)
      have hG : Four V w1.heap.size (.int .u64 ((takeF f b').u : Int)) (.int .i64 (takeF f b').i) (.slice A1 n1 c1) (.bool (takeF f b').t) := by subst hV; exact Four.new _ _ _ _ _ _
      have g0 := hG.c0
      have g1 := hG.c1
      have g2 := hG.c2
      have g3 := hG.c3
      have Y1 := Lib.hid ((y1.below BV.out).more BV.out.size)
      have Y2 := Lib.hid ((y2.below BV.out).more BV.out.size)
      have R2 := Lib.hid (R1.out.below BV.out)
      have Z2 := Lib.hid (Z1.out.trans (BV.out.mono Z1.out.size))
      have HZ := Lib.hid hG.lt
      clear hG y1 y2 h2 hx0 hx1
      by_cases hE : X = 0
      · subst hE
        obtain ⟨⟨x0, x1, x2, x3, q0, q1, q2, q3⟩, qf⟩ := R2.out.there h1
        go_wp2
        obtain ⟨r1, r2⟩ := R2.out.store k h1 (takeF f b') Y1.out nc1
        have hle := rest_length HXX.out
        exact ⟨⟨k + 1, A2, n2, c2, o ++ [takeF f b'], restF f b', by omega, by go_num, rfl, nc2, by have := Y2.out.1; have := HYL.out; omega, HK.out.step HF.out HXX.out, by simp [Hid, HO.out], (R2.out.byt Y2.out r2).more r2.size, by rw [fill_step HO.out h1] at r1; exact r1, Z2.out.grown r2 Z2.out.size (by intro g hg; injection hg with hg; omega)⟩, by simp [intOf]; omega⟩
      · go_wp2
        go_ret3
        exact TkPost.bad (by rw [HK.out.bad HF.out (by rw [HXX.out]; exact hE), HXX.out]) Z2.out
    · obtain rfl : k = n := by omega
      go_wp2
      go_ret3
      have q := HR.out.vls
      rw [Nat.sub_self, List.replicate_zero, List.append_nil] at q
      exact TkPost.ok (HK.out.done (by rw [HN.out]; exact Nat.le_refl _)) q (Nat.le_refl _) HY.out hbc HB.out
end Go.Proofs.YtdpddkpfllioiaaDoor
