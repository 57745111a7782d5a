/-
  put.Put: what it refuses, the tree that has the pair already, and the tree with the pair.
-/
import Derived.Test.YtikmcmoegigfhaaGreatDoorPutI
import Derived.Test.YtikmcmoegigfhaaGreatDoorPutG
namespace Go.Proofs.YtikmcmoegigfhaaGreatDoor
open Go.RowKit Go.Shelf
attribute [local go_sem] Oper.semAt_some

set_option maxRecDepth 100000 in
theorem put_zero (p A : Option Addr) (n c : Nat) (v : Int) (q : Option Addr) (w : World) :
    Calls Tryz.prog 11 #[.pointer p, .slice A n c, .int .u64 v, .int .u64 0, .pointer q] w fun e w' => e = .returned (.tuple #[.pointer none, .int .i64 1]) ∧ w' = w := by
  go_enter Tryz.func11, Tryz.ntmps11
  go_wp2
  go_ret2
  exact ⟨rfl, rfl⟩
set_option maxRecDepth 100000 in
theorem put_big (p A : Option Addr) (n c : Nat) (v o : Int) (q : Option Addr) (w : World) (ho : o ≠ 0) (hn : 65535 < n) (hm : n ≤ 9223372036854775807) :
    Calls Tryz.prog 11 #[.pointer p, .slice A n c, .int .u64 v, .int .u64 o, .pointer q] w fun e w' => e = .returned (.tuple #[.pointer none, .int .i64 8]) ∧ w' = w := by
  have HM := may_any A n c w hm
  rw [if_neg (by omega)] at HM
  have HM := Lib.hid HM
  have h0 : (o == 0) = false := by simpa using ho
  go_enter Tryz.func11, Tryz.ntmps11
  go_wp2_with fail
  (with_reducible refine HM.out.mono ?_)
  rintro e w1 ⟨rfl, rfl⟩
  go_wp2_with fail
  go_ret2
  exact ⟨rfl, rfl⟩
def PutPost (o v : Int) (w : World) (S D : Nat → Prop) (m : Option Nat) (rest : List Value) (cnt : Int) (t : Option (Nn × Fo)) (p : Option Addr) (l : List UInt8) (e : Ending) (w' : World) : Prop :=
  ∃ u D' j, e = .returned (.tuple #[.pointer (some ⟨u, 0, none⟩), .int .i64 0]) ∧ Std w w' o S D m rest cnt (oputs o v t l).1 (oputs o v t l).2 u D' j ∧ j ≤ omx o t l ∧ (ohit t l = true → j ≤ oway o t l ∧ (oway o t l = 0 → p = some ⟨u, 0, none⟩)) ∧ ((l, v) ∈ olist t → j = 0 ∧ p = some ⟨u, 0, none⟩)
theorem oputs_yes {o v : Int} {T : Nn × Fo} {l : List UInt8} (h : (l, v) ∈ olist (some T)) : oputs o v (some T) l = T := if_pos h
theorem oputs_no {o v : Int} {t : Option (Nn × Fo)} {l : List UInt8} (h : (l, v) ∉ olist t) : oputs o v t l = oput o v t l := by
  cases t with
  | none => rfl
  | some T => exact if_neg h
theorem OTow.below {w w' : World} {o : Int} {S D : Nat → Prop} {t : Option (Nn × Fo)} {p : Option Addr} (h : OTow w o S t p D) (hS : ∀ i, S i → i < w.heap.size) (hb : Below w.heap.size w w') : OTow w' o S t p (fun i => D i ∧ i < w.heap.size) := by
  cases t with
  | none => exact h
  | some T =>
    obtain ⟨g, e, h1⟩ := h
    have hk : Kept (fun q => w.heap.size ≤ q) w w' := Kept.of_below hb
    exact ⟨g, e, h1.there.kept hk (fun q hq y => by have := hS q hq; omega) (fun q hq y => by have := hq.2; omega)⟩
theorem OTow.here {w : World} {o : Int} {S D : Nat → Prop} {t : Option (Nn × Fo)} {p : Option Addr} (h : OTow w o S t p D) : OTre w (· < w.heap.size) t p := by
  cases t with
  | none => exact h
  | some T =>
    obtain ⟨g, e, h1⟩ := h
    exact ⟨g, e, h1.tre.there.mono fun _ q => q.2⟩
set_option maxRecDepth 100000 in
set_option maxHeartbeats 1000000 in
theorem put_any {o v cnt : Int} {t : Option (Nn × Fo)} {p A : Option Addr} {n c : Nat} {l : List UInt8} {S D : Nat → Prop} {m : Option Nat} {rest : List Value} {w : World}
    (ht : OTow w o S t p D) (hs : osrt t) (hw : owfB t) (hp : Pre w o S D m rest cnt (omx o t l)) (hky : ∀ V, Kept (fun q => D q ∨ m = some q) w V → Byt V w.heap.size A n l) (hkm : ∀ i, Pb A l i → m ≠ some i) (hnc : n ≤ c) (hn : n ≤ 65535) :
    Calls Tryz.prog 11 #[.pointer p, .slice A n c, .int .u64 v, .int .u64 o, mtr m] w (PutPost o v w S D m rest cnt t p l) := by
  have HM := may_any A n c w (by omega)
  rw [if_pos hn] at HM
  have HM := Lib.hid HM
  have h0 : (o == 0) = false := by simpa using hp.ne
  obtain ⟨g1, g2, hg⟩ : ∃ g1 g2, firstK (olist t) l = (g1, g2) := ⟨_, _, rfl⟩
  have HG := Lib.hid (tget_any hw ht.here (hky w (Kept.refl _ _)) (Nat.le_refl _) hnc (by omega) hg)
  have HIN := Lib.hid (fun (V : World) (hb : Below w.heap.size w V) => into_any o v (l.length + 1) l t p A n c S (fun i => D i ∧ i < w.heap.size) m rest cnt V (Nat.lt_succ_self _) (ht.below (fun q hq => (hp.far q hq).2) hb) hs (hp.there.below hb) (fun V' hk => (hky V' ((Kept.of_below hb).thru hk (fun q _ z => z.imp (fun y => y.1) id))).more hb.size) hkm hnc (by omega))
  have HF := Lib.hid (fun (V : World) (hb : Below w.heap.size w V) (hno : (l, v) ∉ olist t) (e : Ending) (w' : World) (u : Nat) (he : e = .returned (.pointer (some ⟨u, 0, none⟩))) (h : IPost o v V S (fun i => D i ∧ i < w.heap.size) m rest cnt t p l e w') => show PutPost o v w S D m rest cnt t p l (.returned (.tuple #[.pointer (some ⟨u, 0, none⟩), .int .i64 0])) w' from by
    obtain ⟨u2, D2, j, e2, h1, h2, h3⟩ := h
    rw [he] at e2
    injection e2 with e2
    injection e2 with e2
    injection e2 with e2
    injection e2 with e2
    subst e2
    refine ⟨u, D2, j, rfl, ?_, h2, h3, fun q => absurd q hno⟩
    rw [oputs_no hno]
    exact (h1.mono (fun q z => z.1)).from hb)
  have HY := Lib.hid (fun (V : World) (hb : Below w.heap.size w V) (hyes : (l, v) ∈ olist t) => show PutPost o v w S D m rest cnt t p l (.returned (.tuple #[.pointer p, .int .i64 0])) V from by
    cases t with
    | none => cases hyes
    | some T =>
      obtain ⟨g, rfl, h1⟩ := ht
      obtain ⟨D2, h2⟩ := ((Std.start hp h1).below hp hb).hide
      refine ⟨g, D2, 0, rfl, ?_, Nat.zero_le _, fun _ => ⟨Nat.zero_le _, fun _ => rfl⟩, fun _ => ⟨rfl, rfl⟩⟩
      rw [oputs_yes hyes]
      exact h2)
  have HR := Lib.hid hw.rise
  obtain ⟨mp, hmp⟩ : ∃ mp, mtr m = .pointer mp := ⟨_, rfl⟩
  unfold cmV at HIN
  rw [hmp] at HIN ⊢
  clear ht hs hw hp hky hkm hnc hmp
  by_cases hyes : (l, v) ∈ olist t
  · have h1 := (firstK_yes HR.out).2 hyes
    rw [hg] at h1
    injection h1 with h1 h2
    subst h1
    subst h2
    have HYS := Lib.hid hyes
    clear hg hyes HF HIN
    go_enter Tryz.func11, Tryz.ntmps11
    go_wp2_with fail
    (with_reducible refine HM.out.mono ?_)
    rintro e w1 ⟨rfl, rfl⟩
    go_wp2_with fail
    (with_reducible refine HG.out.mono ?_)
    rintro e w2 ⟨rfl, b2⟩
    have HE := Lib.hid (HY.out _ b2 HYS.out)
    clear b2
    go_wp2_with fail
    go_ret2
    exact HE.out
  · have hgv : g2 = true → ¬ g1 = v := fun e q => hyes ((firstK_yes HR.out).1 (by rw [hg, e, q]))
    have HNO := Lib.hid hyes
    clear hg hyes HY
    go_enter Tryz.func11, Tryz.ntmps11
    go_wp2_with fail
    (with_reducible refine HM.out.mono ?_)
    rintro e w1 ⟨rfl, rfl⟩
    go_wp2_with fail
    (with_reducible refine HG.out.mono ?_)
    rintro e w2 ⟨rfl, b2⟩
    have HB2 := Lib.hid b2
    clear b2 HG HM
    cases g2 with
    | false =>
      have HE := Lib.hid (HIN.out _ HB2.out)
      clear hgv HIN
      go_wp2_with fail
      (with_reducible refine HE.out.mono ?_)
      intro e w3 h3
      obtain ⟨u3, he3⟩ : ∃ u, e = .returned (.pointer (some ⟨u, 0, none⟩)) := by
        obtain ⟨u, _, _, he, _⟩ := h3
        exact ⟨u, he⟩
      have HX := Lib.hid (HF.out _ HB2.out HNO.out _ _ u3 he3 h3)
      subst he3
      clear h3 HE
      go_wp2_with fail
      go_ret2
      exact HX.out
    | true =>
      have hg3 : (g1 == v) = false := by simpa using hgv rfl
      have HE := Lib.hid (HIN.out _ HB2.out)
      clear hgv HIN
      go_wp2_with fail
      (with_reducible refine HE.out.mono ?_)
      intro e w3 h3
      obtain ⟨u3, he3⟩ : ∃ u, e = .returned (.pointer (some ⟨u, 0, none⟩)) := by
        obtain ⟨u, _, _, he, _⟩ := h3
        exact ⟨u, he⟩
      have HX := Lib.hid (HF.out _ HB2.out HNO.out _ _ u3 he3 h3)
      subst he3
      clear h3 HE
      go_wp2_with fail
      go_ret2
      exact HX.out
end Go.Proofs.YtikmcmoegigfhaaGreatDoor
