/-
  What tuple.Get, First and the document's Get, First answer.
-/
import Derived.Test.YtdpddkpfllioiaaDoorTuplePut
import Derived.Test.YtdpddkpfllioiaaDoorTupleRTake
namespace Go.Proofs.YtdpddkpfllioiaaDoor
open Go.RowKit

/-- What is left where values and an error are handed back. -/
def VEPost (w : World) (vs : List Vl) (er : Int) (e : Ending) (w' : World) : Prop := ∃ A n c, e = .returned (.tuple #[.slice A n c, .int .i64 er]) ∧ Vls w' w'.heap.size A n vs ∧ n ≤ c ∧ Below w.heap.size w w'
theorem VEPost.none_ {w w' : World} {vs : List Vl} {er a : Int} (hp : a = er ∧ [] = vs) (hb : Below w.heap.size w w') : VEPost w vs er (.returned (.tuple #[.slice none 0 0, .int .i64 a])) w' := by
  obtain ⟨rfl, rfl⟩ := hp
  exact ⟨none, 0, 0, rfl, Vls.none_, Nat.le_refl _, hb⟩

set_option maxRecDepth 100000 in
set_option maxHeartbeats 4000000 in
theorem tget_any (A A' : Option Addr) (n c n' c' B : Nat) (fs : List Fd) (b : List UInt8) (w : World) (hT : Tab w) (ha : Fds w B A n fs) (hb : Byt w B A' n' b) (hnc : n' ≤ c') (hB : B ≤ w.heap.size) :
    Calls Tryd.prog 18 #[.slice A n c, .slice A' n' c'] w (VEPost w (getsV fs b) (getsE fs b)) := by
  have HN := Lib.hid ha.length
  have HN' := Lib.hid hb.1
  have HA := Lib.hid (fun V (h : Below w.heap.size w V) => And.intro ((ha.more hB).below h) ((hb.more hB).below h))
  have HT := Lib.hid (fun V (h : Below w.heap.size w V) => hT.below h)
  have hm : n ≤ 9223372036854775807 := by have := ha.2.1; unfold maxLen at this; omega
  have hm' : n' ≤ 9223372036854775807 := by have := hb.2.1; unfold maxLen at this; omega
  have HC := Lib.hid (tcheck_any A n c B fs w ha hB)
  clear ha hb hT
  generalize hCC : chkL fs = C at HC
  have HCC := Lib.hid hCC
  clear hCC
  by_cases hc : C = 0
  · subst hc
    by_cases h1 : 65535 < n'
    · go_enter Tryd.func18, Tryd.ntmps18
      go_wp2_with fail
      (with_reducible refine HC.out.mono ?_)
      rintro e w1 ⟨rfl, hb1⟩
      have B1 := Lib.hid hb1
      clear hb1
      go_wp2
      go_ret2
      exact VEPost.none_ (by obtain ⟨q1, q2⟩ := gets_big HCC.out (b := b) (by rw [HN'.out]; exact h1); exact ⟨q1.symm, q2.symm⟩) B1.out
    · have hn : n ≤ 255 := by have := (chkL_zero HCC.out).1; rw [HN.out] at this; exact this
      have HL := Lib.hid (show ¬ 65535 < b.length from by rw [HN'.out]; exact h1)
      have HX := Lib.hid (fun V (h : Below w.heap.size w V) => ttake_any A A' n c n' c' w.heap.size fs b V (HT.out _ h) (HA.out _ h).1 (HA.out _ h).2 hnc h.size (by omega) (by omega))
      rcases ht : takes fs b with ⟨vs, r⟩ | er
      · rw [ht] at HX
        have HTK := Lib.hid ht
        clear ht
        go_enter Tryd.func18, Tryd.ntmps18
        go_wp2_with fail
        (with_reducible refine HC.out.mono ?_)
        rintro e w1 ⟨rfl, hb1⟩
        have B1 := Lib.hid hb1
        clear hb1
        go_wp2_with fail
        (with_reducible refine (HX.out _ B1.out).mono ?_)
        rintro e w2 ⟨A1, n1, c1, A2, n2, c2, rfl, hv, nc1, hr, nc2, h2⟩
        rw [show (Tk.ok vs r).E = 0 from rfl]
        have V2 := Lib.hid hv
        have R2 := Lib.hid hr
        have B2 := Lib.hid (B1.out.trans (h2.mono B1.out.size))
        have hn2 : n2 ≤ 9223372036854775807 := by have := hr.2.1; unfold maxLen at this; omega
        clear hv hr h2
        by_cases h3 : 0 < n2
        · go_wp2
          go_ret2
          exact VEPost.none_ (by obtain ⟨q1, q2⟩ := gets_more HCC.out HL.out HTK.out (by have := R2.out.1; simp only [Tk.R] at this; omega); exact ⟨q1.symm, q2.symm⟩) B2.out
        · go_wp2
          go_ret2
          obtain ⟨q1, q2⟩ := gets_ok HCC.out HL.out HTK.out (by have := R2.out.1; simp only [Tk.R] at this; omega)
          exact ⟨A1, n1, c1, by rw [q1]; rfl, by rw [q2]; exact V2.out, nc1, B2.out⟩
      · rw [ht] at HX
        have HTK := Lib.hid ht
        have her : ¬ er = 0 := by rintro rfl; exact bad_zero fs b ht
        clear ht
        go_enter Tryd.func18, Tryd.ntmps18
        go_wp2_with fail
        (with_reducible refine HC.out.mono ?_)
        rintro e w1 ⟨rfl, hb1⟩
        have B1 := Lib.hid hb1
        clear hb1
        go_wp2_with fail
        (with_reducible refine (HX.out _ B1.out).mono ?_)
        rintro e w2 ⟨A1, n1, c1, A2, n2, c2, rfl, _, _, _, _, h2⟩
        rw [show (Tk.bad er).E = er from rfl]
        have B2 := Lib.hid (B1.out.trans (h2.mono B1.out.size))
        clear h2
        go_wp2
        go_ret2
        exact VEPost.none_ (by obtain ⟨q1, q2⟩ := gets_bad HCC.out HL.out HTK.out; exact ⟨q1.symm, q2.symm⟩) B2.out
  · go_enter Tryd.func18, Tryd.ntmps18
    go_wp2_with fail
    (with_reducible refine HC.out.mono ?_)
    rintro e w1 ⟨rfl, hb1⟩
    have B1 := Lib.hid hb1
    clear hb1
    go_wp2
    go_ret2
    exact VEPost.none_ (by obtain ⟨q1, q2⟩ := gets_chk (fs := fs) (b := b) (by rw [HCC.out]; exact hc); exact ⟨by rw [q1, HCC.out], q2.symm⟩) B1.out

set_option maxRecDepth 100000 in
set_option maxHeartbeats 4000000 in
theorem rtget_any (A A' : Option Addr) (n c n' c' B : Nat) (fs : List Fd) (b : List UInt8) (w : World) (ha : Fds w B A n fs) (hb : Byt w B A' n' b) (hnc : n' ≤ c') (hB : B ≤ w.heap.size) :
    Calls Tryd.prog 19 #[.slice A n c, .slice A' n' c'] w (VEPost w (getsV fs b) (getsE fs b)) := by
  have HN := Lib.hid ha.length
  have HN' := Lib.hid hb.1
  have HA := Lib.hid (fun V (h : Below w.heap.size w V) => And.intro ((ha.more hB).below h) ((hb.more hB).below h))
  have hm : n ≤ 9223372036854775807 := by have := ha.2.1; unfold maxLen at this; omega
  have hm' : n' ≤ 9223372036854775807 := by have := hb.2.1; unfold maxLen at this; omega
  have HC := Lib.hid ((rtcheck_any A n c B fs w ha).mono fun _ _ h => (And.intro h.1 (h.2.below w.heap.size) : _ ∧ Below w.heap.size w _))
  clear ha hb
  generalize hCC : chkL fs = C at HC
  have HCC := Lib.hid hCC
  clear hCC
  by_cases hc : C = 0
  · subst hc
    by_cases h1 : 65535 < n'
    · go_enter Tryd.func19, Tryd.ntmps19
      go_wp2_with fail
      (with_reducible refine HC.out.mono ?_)
      rintro e w1 ⟨rfl, hb1⟩
      have B1 := Lib.hid hb1
      clear hb1
      go_wp2
      go_ret2
      exact VEPost.none_ (by obtain ⟨q1, q2⟩ := gets_big HCC.out (b := b) (by rw [HN'.out]; exact h1); exact ⟨q1.symm, q2.symm⟩) B1.out
    · have hn : n ≤ 255 := by have := (chkL_zero HCC.out).1; rw [HN.out] at this; exact this
      have HL := Lib.hid (show ¬ 65535 < b.length from by rw [HN'.out]; exact h1)
      have HX := Lib.hid (fun V (h : Below w.heap.size w V) => show Calls Tryd.prog 35 #[.slice A n c, .slice A' n' c', .int .i64 (n : Int)] V (TkPost V (takes fs b)) from by have q := rttake_any A A' n n c n' c' w.heap.size fs b V (HA.out _ h).1 (Nat.le_refl _) (HA.out _ h).2 hnc h.size (by omega) (by omega); rwa [List.take_of_length_le (by rw [HN.out]; exact Nat.le_refl _)] at q)
      rcases ht : takes fs b with ⟨vs, r⟩ | er
      · rw [ht] at HX
        have HTK := Lib.hid ht
        clear ht
        go_enter Tryd.func19, Tryd.ntmps19
        go_wp2_with fail
        (with_reducible refine HC.out.mono ?_)
        rintro e w1 ⟨rfl, hb1⟩
        have B1 := Lib.hid hb1
        clear hb1
        go_wp2_with fail
        (with_reducible refine (HX.out _ B1.out).mono ?_)
        rintro e w2 ⟨A1, n1, c1, A2, n2, c2, rfl, hv, nc1, hr, nc2, h2⟩
        rw [show (Tk.ok vs r).E = 0 from rfl]
        have V2 := Lib.hid hv
        have R2 := Lib.hid hr
        have B2 := Lib.hid (B1.out.trans (h2.mono B1.out.size))
        have hn2 : n2 ≤ 9223372036854775807 := by have := hr.2.1; unfold maxLen at this; omega
        clear hv hr h2
        by_cases h3 : 0 < n2
        · go_wp2
          go_ret2
          exact VEPost.none_ (by obtain ⟨q1, q2⟩ := gets_more HCC.out HL.out HTK.out (by have := R2.out.1; simp only [Tk.R] at this; omega); exact ⟨q1.symm, q2.symm⟩) B2.out
        · go_wp2
          go_ret2
          obtain ⟨q1, q2⟩ := gets_ok HCC.out HL.out HTK.out (by have := R2.out.1; simp only [Tk.R] at this; omega)
          exact ⟨A1, n1, c1, by rw [q1]; rfl, by rw [q2]; exact V2.out, nc1, B2.out⟩
      · rw [ht] at HX
        have HTK := Lib.hid ht
        have her : ¬ er = 0 := by rintro rfl; exact bad_zero fs b ht
        clear ht
        go_enter Tryd.func19, Tryd.ntmps19
        go_wp2_with fail
        (with_reducible refine HC.out.mono ?_)
        rintro e w1 ⟨rfl, hb1⟩
        have B1 := Lib.hid hb1
        clear hb1
        go_wp2_with fail
        (with_reducible refine (HX.out _ B1.out).mono ?_)
        rintro e w2 ⟨A1, n1, c1, A2, n2, c2, rfl, _, _, _, _, h2⟩
        rw [show (Tk.bad er).E = er from rfl]
        have B2 := Lib.hid (B1.out.trans (h2.mono B1.out.size))
        clear h2
        go_wp2
        go_ret2
        exact VEPost.none_ (by obtain ⟨q1, q2⟩ := gets_bad HCC.out HL.out HTK.out; exact ⟨q1.symm, q2.symm⟩) B2.out
  · go_enter Tryd.func19, Tryd.ntmps19
    go_wp2_with fail
    (with_reducible refine HC.out.mono ?_)
    rintro e w1 ⟨rfl, hb1⟩
    have B1 := Lib.hid hb1
    clear hb1
    go_wp2
    go_ret2
    exact VEPost.none_ (by obtain ⟨q1, q2⟩ := gets_chk (fs := fs) (b := b) (by rw [HCC.out]; exact hc); exact ⟨by rw [q1, HCC.out], q2.symm⟩) B1.out

set_option maxRecDepth 100000 in
set_option maxHeartbeats 4000000 in
theorem tfirst_any (A A' : Option Addr) (n c n' c' B : Nat) (m : Int) (fs : List Fd) (b : List UInt8) (w : World) (hT : Tab w) (ha : Fds w B A n fs) (hac : n ≤ c) (hb : Byt w B A' n' b) (hnc : n' ≤ c') (hB : B ≤ w.heap.size) (hn' : n' ≤ 1000000) :
    Calls Tryd.prog 21 #[.slice A n c, .slice A' n' c', .int .i64 m] w (TPost w (fstL fs b m) (fstE fs b m)) := by
  have HN := Lib.hid ha.length
  have HN' := Lib.hid hb.1
  have HA := Lib.hid (fun V (h : Below w.heap.size w V) => And.intro ((ha.more hB).below h) ((hb.more hB).below h))
  have HT := Lib.hid (fun V (h : Below w.heap.size w V) => hT.below h)
  have hm : n ≤ 9223372036854775807 := by have := ha.2.1; unfold maxLen at this; omega
  have HC := Lib.hid (tcheck_any A n c B fs w ha hB)
  clear ha hb hT
  generalize hCC : chkL fs = C at HC
  have HCC := Lib.hid hCC
  clear hCC
  by_cases hc : C = 0
  · subst hc
    by_cases h1 : m < 0 ∨ (n : Int) < m
    · have HE := Lib.hid (show fstE fs b m = 4 ∧ fstL fs b m = [] from by
        have q : fstE fs b m = 4 := by unfold fstE; rw [if_neg (by simp [HCC.out]), if_pos (by rw [HN.out]; exact h1)]
        exact ⟨q, by unfold fstL; rw [q]; rfl⟩)
      by_cases h2 : m < 0
      · go_enter Tryd.func21, Tryd.ntmps21
        go_wp2_with fail
        (with_reducible refine HC.out.mono ?_)
        rintro e w1 ⟨rfl, hb1⟩
        have B1 := Lib.hid hb1
        clear hb1
        go_wp2
        go_ret2
        exact TPost.none_ ⟨HE.out.1.symm, HE.out.2.symm⟩ B1.out
      · have h3 : (n : Int) < m := by omega
        go_enter Tryd.func21, Tryd.ntmps21
        go_wp2_with fail
        (with_reducible refine HC.out.mono ?_)
        rintro e w1 ⟨rfl, hb1⟩
        have B1 := Lib.hid hb1
        clear hb1
        go_wp2
        go_ret2
        exact TPost.none_ ⟨HE.out.1.symm, HE.out.2.symm⟩ B1.out
    · have hn : n ≤ 255 := by have := (chkL_zero HCC.out).1; rw [HN.out] at this; exact this
      obtain ⟨k, rfl⟩ : ∃ k : Nat, m = k := ⟨m.toNat, by omega⟩
      have hk : k ≤ n := by omega
      have hkc : (k : Int) ≤ (c : Int) := by omega
      have hk0 : ¬ (k : Int) < 0 := by omega
      have hkn : ¬ (n : Int) < (k : Int) := by omega
      have HF := Lib.hid (show fstE fs b k = (takes (fs.take k) b).E from by unfold fstE; rw [if_neg (by simp [HCC.out]), if_neg (by rw [HN.out]; omega)]; rfl)
      have HX := Lib.hid (fun V (h : Below w.heap.size w V) => ttake_any A A' k c n' c' w.heap.size (fs.take k) b V (HT.out _ h) ((HA.out _ h).1.take hk) (HA.out _ h).2 hnc h.size (by omega) (by omega))
      clear h1
      rcases ht : takes (fs.take k) b with ⟨vs, r⟩ | er
      · rw [ht] at HX
        have hr := (takes_put ht).2.2
        have HTK := Lib.hid ht
        clear ht
        obtain ⟨z, hz⟩ : ∃ z, n' = z + r.length := ⟨(catL (fs.take k) vs).length, by have := congrArg List.length hr; rw [List.length_append, HN'.out] at this; exact this.symm⟩
        have HZ := Lib.hid hz
        have HE := Lib.hid (show fstE fs b k = 0 ∧ fstL fs b k = b.take z from by
          have q : fstE fs b k = 0 := by rw [HF.out, HTK.out]; rfl
          refine ⟨q, ?_⟩
          unfold fstL
          rw [if_pos q, Int.toNat_natCast, HTK.out]
          congr 1
          have := HN'.out
          simp only [Tk.R]
          omega)
        clear hr hz
        go_enter Tryd.func21, Tryd.ntmps21
        go_wp2_with fail
        (with_reducible refine HC.out.mono ?_)
        rintro e w1 ⟨rfl, hb1⟩
        have B1 := Lib.hid hb1
        clear hb1
        go_wp2_with fail
        (with_reducible refine (HX.out _ B1.out).mono ?_)
        rintro e w2 ⟨A1, n1, c1, A2, n2, c2, rfl, hv, nc1, hr, nc2, h2⟩
        rw [show (Tk.ok vs r).E = 0 from rfl]
        have e1 : (n' : Int) - (n2 : Int) = z := by have := HZ.out; have : r.length = n2 := hr.1; omega
        have hz : z ≤ n' := by have := HZ.out; omega
        have B2 := Lib.hid (B1.out.trans (h2.mono B1.out.size))
        clear hv hr h2
        have hzc : (z : Int) ≤ (c' : Int) := by omega
        go_wp2_with fail
        (with_reducible refine (clone_any A' z c' w.heap.size _ w2 ((HA.out _ B2.out).2.take hz) B2.out.size (by omega)).mono ?_)
        rintro e w3 ⟨A3, n3, c3, rfl, y3, nc3, h3⟩
        have B3 := Lib.hid (B2.out.trans (h3.mono B2.out.size))
        have Y3 := Lib.hid y3
        clear h3 y3
        go_wp2
        go_ret2
        exact ⟨A3, n3, c3, by rw [HE.out.1]; rfl, by rw [HE.out.2]; exact Y3.out, nc3, B3.out⟩
      · rw [ht] at HX
        have HTK := Lib.hid ht
        have her : ¬ er = 0 := by rintro rfl; exact bad_zero _ b ht
        have HE := Lib.hid (show fstE fs b k = er ∧ fstL fs b k = [] from by
          have q : fstE fs b k = er := by rw [HF.out, ht]; rfl
          exact ⟨q, by unfold fstL; rw [q, if_neg her]⟩)
        clear ht
        go_enter Tryd.func21, Tryd.ntmps21
        go_wp2_with fail
        (with_reducible refine HC.out.mono ?_)
        rintro e w1 ⟨rfl, hb1⟩
        have B1 := Lib.hid hb1
        clear hb1
        go_wp2_with fail
        (with_reducible refine (HX.out _ B1.out).mono ?_)
        rintro e w2 ⟨A1, n1, c1, A2, n2, c2, rfl, _, _, _, _, h2⟩
        rw [show (Tk.bad er).E = er from rfl]
        have B2 := Lib.hid (B1.out.trans (h2.mono B1.out.size))
        clear h2
        go_wp2
        go_ret2
        exact TPost.none_ ⟨HE.out.1.symm, HE.out.2.symm⟩ B2.out
  · have HE := Lib.hid (show fstE fs b m = C ∧ fstL fs b m = [] from by
      have q : fstE fs b m = C := by unfold fstE; rw [if_pos (by rw [HCC.out]; exact hc), HCC.out]
      exact ⟨q, by unfold fstL; rw [q, if_neg hc]⟩)
    go_enter Tryd.func21, Tryd.ntmps21
    go_wp2_with fail
    (with_reducible refine HC.out.mono ?_)
    rintro e w1 ⟨rfl, hb1⟩
    have B1 := Lib.hid hb1
    clear hb1
    go_wp2
    go_ret2
    exact TPost.none_ ⟨HE.out.1.symm, HE.out.2.symm⟩ B1.out

set_option maxRecDepth 100000 in
set_option maxHeartbeats 4000000 in
theorem rtfirst_any (A A' : Option Addr) (n c n' c' B : Nat) (m : Int) (fs : List Fd) (b : List UInt8) (w : World) (ha : Fds w B A n fs) (hac : n ≤ c) (hb : Byt w B A' n' b) (hnc : n' ≤ c') (hB : B ≤ w.heap.size) (hn' : n' ≤ 1000000) :
    Calls Tryd.prog 22 #[.slice A n c, .slice A' n' c', .int .i64 m] w (TPost w (fstL fs b m) (fstE fs b m)) := by
  have HN := Lib.hid ha.length
  have HN' := Lib.hid hb.1
  have HA := Lib.hid (fun V (h : Below w.heap.size w V) => And.intro ((ha.more hB).below h) ((hb.more hB).below h))
  have hm : n ≤ 9223372036854775807 := by have := ha.2.1; unfold maxLen at this; omega
  have HC := Lib.hid ((rtcheck_any A n c B fs w ha).mono fun _ _ h => (And.intro h.1 (h.2.below w.heap.size) : _ ∧ Below w.heap.size w _))
  clear ha hb
  generalize hCC : chkL fs = C at HC
  have HCC := Lib.hid hCC
  clear hCC
  by_cases hc : C = 0
  · subst hc
    by_cases h1 : m < 0 ∨ (n : Int) < m
    · have HE := Lib.hid (show fstE fs b m = 4 ∧ fstL fs b m = [] from by
        have q : fstE fs b m = 4 := by unfold fstE; rw [if_neg (by simp [HCC.out]), if_pos (by rw [HN.out]; exact h1)]
        exact ⟨q, by unfold fstL; rw [q]; rfl⟩)
      by_cases h2 : m < 0
      · go_enter Tryd.func22, Tryd.ntmps22
        go_wp2_with fail
        (with_reducible refine HC.out.mono ?_)
        rintro e w1 ⟨rfl, hb1⟩
        have B1 := Lib.hid hb1
        clear hb1
        go_wp2
        go_ret2
        exact TPost.none_ ⟨HE.out.1.symm, HE.out.2.symm⟩ B1.out
      · have h3 : (n : Int) < m := by omega
        go_enter Tryd.func22, Tryd.ntmps22
        go_wp2_with fail
        (with_reducible refine HC.out.mono ?_)
        rintro e w1 ⟨rfl, hb1⟩
        have B1 := Lib.hid hb1
        clear hb1
        go_wp2
        go_ret2
        exact TPost.none_ ⟨HE.out.1.symm, HE.out.2.symm⟩ B1.out
    · have hn : n ≤ 255 := by have := (chkL_zero HCC.out).1; rw [HN.out] at this; exact this
      obtain ⟨k, rfl⟩ : ∃ k : Nat, m = k := ⟨m.toNat, by omega⟩
      have hk : k ≤ n := by omega
      have hkc : (k : Int) ≤ (c : Int) := by omega
      have hk0 : ¬ (k : Int) < 0 := by omega
      have hkn : ¬ (n : Int) < (k : Int) := by omega
      have HF := Lib.hid (show fstE fs b k = (takes (fs.take k) b).E from by unfold fstE; rw [if_neg (by simp [HCC.out]), if_neg (by rw [HN.out]; omega)]; rfl)
      have HX := Lib.hid (fun V (h : Below w.heap.size w V) => rttake_any A A' n k c n' c' w.heap.size fs b V (HA.out _ h).1 hk (HA.out _ h).2 hnc h.size (by omega) (by omega))
      clear h1
      rcases ht : takes (fs.take k) b with ⟨vs, r⟩ | er
      · rw [ht] at HX
        have hr := (takes_put ht).2.2
        have HTK := Lib.hid ht
        clear ht
        obtain ⟨z, hz⟩ : ∃ z, n' = z + r.length := ⟨(catL (fs.take k) vs).length, by have := congrArg List.length hr; rw [List.length_append, HN'.out] at this; exact this.symm⟩
        have HZ := Lib.hid hz
        have HE := Lib.hid (show fstE fs b k = 0 ∧ fstL fs b k = b.take z from by
          have q : fstE fs b k = 0 := by rw [HF.out, HTK.out]; rfl
          refine ⟨q, ?_⟩
          unfold fstL
          rw [if_pos q, Int.toNat_natCast, HTK.out]
          congr 1
          have := HN'.out
          simp only [Tk.R]
          omega)
        clear hr hz
        go_enter Tryd.func22, Tryd.ntmps22
        go_wp2_with fail
        (with_reducible refine HC.out.mono ?_)
        rintro e w1 ⟨rfl, hb1⟩
        have B1 := Lib.hid hb1
        clear hb1
        go_wp2_with fail
        (with_reducible refine (HX.out _ B1.out).mono ?_)
        rintro e w2 ⟨A1, n1, c1, A2, n2, c2, rfl, hv, nc1, hr, nc2, h2⟩
        rw [show (Tk.ok vs r).E = 0 from rfl]
        have e1 : (n' : Int) - (n2 : Int) = z := by have := HZ.out; have : r.length = n2 := hr.1; omega
        have hz : z ≤ n' := by have := HZ.out; omega
        have B2 := Lib.hid (B1.out.trans (h2.mono B1.out.size))
        clear hv hr h2
        have hzc : (z : Int) ≤ (c' : Int) := by omega
        go_wp2_with fail
        go_ret2
        exact ⟨A', z, c', by rw [HE.out.1]; rfl, by rw [HE.out.2]; exact (((HA.out _ B2.out).2.take hz).more B2.out.size), by omega, B2.out⟩
      · rw [ht] at HX
        have HTK := Lib.hid ht
        have her : ¬ er = 0 := by rintro rfl; exact bad_zero _ b ht
        have HE := Lib.hid (show fstE fs b k = er ∧ fstL fs b k = [] from by
          have q : fstE fs b k = er := by rw [HF.out, ht]; rfl
          exact ⟨q, by unfold fstL; rw [q, if_neg her]⟩)
        clear ht
        go_enter Tryd.func22, Tryd.ntmps22
        go_wp2_with fail
        (with_reducible refine HC.out.mono ?_)
        rintro e w1 ⟨rfl, hb1⟩
        have B1 := Lib.hid hb1
        clear hb1
        go_wp2_with fail
        (with_reducible refine (HX.out _ B1.out).mono ?_)
        rintro e w2 ⟨A1, n1, c1, A2, n2, c2, rfl, _, _, _, _, h2⟩
        rw [show (Tk.bad er).E = er from rfl]
        have B2 := Lib.hid (B1.out.trans (h2.mono B1.out.size))
        clear h2
        go_wp2
        go_ret2
        exact TPost.none_ ⟨HE.out.1.symm, HE.out.2.symm⟩ B2.out
  · have HE := Lib.hid (show fstE fs b m = C ∧ fstL fs b m = [] from by
      have q : fstE fs b m = C := by unfold fstE; rw [if_pos (by rw [HCC.out]; exact hc), HCC.out]
      exact ⟨q, by unfold fstL; rw [q, if_neg hc]⟩)
    go_enter Tryd.func22, Tryd.ntmps22
    go_wp2_with fail
    (with_reducible refine HC.out.mono ?_)
    rintro e w1 ⟨rfl, hb1⟩
    have B1 := Lib.hid hb1
    clear hb1
    go_wp2
    go_ret2
    exact TPost.none_ ⟨HE.out.1.symm, HE.out.2.symm⟩ B1.out
end Go.Proofs.YtdpddkpfllioiaaDoor
