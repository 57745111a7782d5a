/-
  What tuple.parseField and Parse answer: the schema of a text, or an error.
-/
import Derived.Test.YtdpddkpfllioiaaDoorTupleTxt
namespace Go.Proofs.YtdpddkpfllioiaaDoor
open Go.RowKit

theorem load_fd (ty : TypeId) {D : TypeDesc} (hu : Tryd.prog.underlying ty = some D) (hd : D.isRow = true) (hi : (Tryd.prog.info? ty).map (·.size) = some 2) {w : World} {g : Nat} {a b : Value} (h : Two w g a b) : (loadVar ty ⟨g, 0, none⟩).run Tryd.prog w = .ok (.agg #[a, b]) w := by
  refine run_loadVar_mid w g 0 ty [a, b] _ (fun j v hv => ?_) hu hd hi
  rw [Nat.zero_add]
  match j, hv with
  | 0, hv => simp at hv; subst hv; exact h.k0
  | 1, hv => simp at hv; subst hv; exact h.k1
theorem size_fd : (Tryd.prog.info? 58).map (·.size) = some 2 := by kernel_rfl
theorem size_rfd : (Tryd.prog.info? 57).map (·.size) = some 2 := by kernel_rfl
theorem str_same (a b : List UInt8) : ((bst a).toList == (bst b).toList) = decide (a = b) := by
  rw [Lib.toList_data, Lib.toList_data, bst_toList, bst_toList]
  by_cases h : a = b
  · simp [h]
  · rw [decide_eq_false h]; simpa using h
/-- What is left where a field is parsed: it, or no. -/
def PFPost (w : World) (l : List UInt8) (e : Ending) (w' : World) : Prop :=
  (match parseF l with
    | some f => e = .returned (.tuple #[.agg #[.int .i64 f.k, .bool f.f], .bool true])
    | none => ∃ k d, e = .returned (.tuple #[.agg #[.int .i64 k, .bool d], .bool false])) ∧ Below w.heap.size w w'
theorem PFPost.yes {w w' : World} {l : List UInt8} {k : Int} {d : Bool} (h : parseF l = some ⟨k, d⟩) (hb : Below w.heap.size w w') : PFPost w l (.returned (.tuple #[.agg #[.int .i64 k, .bool d], .bool true])) w' := by
  unfold PFPost; rw [h]; exact ⟨rfl, hb⟩
theorem PFPost.no {w w' : World} {l : List UInt8} {k : Int} {d : Bool} (h : parseF l = none) (hb : Below w.heap.size w w') : PFPost w l (.returned (.tuple #[.agg #[.int .i64 k, .bool d], .bool false])) w' := by
  unfold PFPost; rw [h]; exact ⟨⟨k, d, rfl⟩, hb⟩
theorem PFPost.some_ {w w' : World} {l : List UInt8} {f : Fd} {e : Ending} (h : parseF l = some f) (hp : PFPost w l e w') : e = .returned (.tuple #[.agg #[.int .i64 f.k, .bool f.f], .bool true]) ∧ Below w.heap.size w w' := by
  unfold PFPost at hp; rw [h] at hp; exact hp
theorem PFPost.none_ {w w' : World} {l : List UInt8} {e : Ending} (h : parseF l = none) (hp : PFPost w l e w') : (∃ k d, e = .returned (.tuple #[.agg #[.int .i64 k, .bool d], .bool false])) ∧ Below w.heap.size w w' := by
  unfold PFPost at hp; rw [h] at hp; exact hp

set_option maxRecDepth 100000 in
set_option maxHeartbeats 4000000 in
theorem parseField_any (l : List UInt8) (w : World) (hT : Nam w) :
    Calls Tryd.prog 38 #[.string (bst l)] w (PFPost w l) := by
  have HT := Lib.hid (fun V (h : Below w.heap.size w V) => hT.below h)
  clear hT
  generalize hW : w.alloc (.cells #[.int .i64 0, .bool false] 58) = W
  have HF := Lib.hid (show Two W w.heap.size (.int .i64 0) (.bool false) from by subst hW; exact Two.new _ _ _ _)
  have HB := Lib.hid (show Below w.heap.size w W from by subst hW; exact (Below.refl _ _).alloc (Nat.le_refl _) _)
  have x0 := HF.out.k0
  have x1 := HF.out.k1
  have xf := HF.out.fz
  go_enter Tryd.func38, Tryd.ntmps38
  go_wp2_with fail
  clear hW
  (with_reducible refine (cutp_any l _).mono ?_)
  rintro e w1 ⟨rfl, rfl⟩
  go_wp2
  go_loopw [6] (fun i wr => ∃ k : Nat, 1 ≤ k ∧ k ≤ 11 ∧ i = .int .i64 k ∧ wr = W ∧ Hid (∀ j : Int, 1 ≤ j → j < k → nameL j ≠ nmL l)) (fun i _ => 11 - (intOf i).toNat)
  case atStart => exact ⟨1, by omega, by omega, rfl, rfl, fun j h1 h2 => by omega⟩
  case round =>
    obtain ⟨k, hk1, hk, rfl, rfl, HO⟩ := hrel
    by_cases h1 : k ≤ 10
    · have hnm := (HT.out _ HB.out).2 k h1
      have d1 : (k : Int) < 11 := by omega
      by_cases h2 : nameL (k : Int) = nmL l
      · have e1 : ((bst (nameL (k : Int))).toList == (bst (nmL l)).toList) = true := by rw [str_same]; exact decide_eq_true h2
        have HP := Lib.hid (parseF_name (k := (k : Int)) (by omega) h2)
        clear h2
        go_wp2
        (try simp only [Exit.inBlock, Exit.then])
        have e := load_fd 58 Tryd.underlying58 rfl size_fd ((HF.out.set_ 0 (.int .i64 (k : Int))).set_ 1 (.bool (dnB l)))
        refine bodyPost_ret (v := .tuple #[.agg #[.int .i64 (k : Int), .bool (dnB l)], .bool true]) (by rw [results_cell_tmp rfl]; simp [asAddr, Result.andThen, e]) rfl ?_
        exact PFPost.yes HP.out ((HB.out.setCell (Nat.le_refl _) _).setCell (Nat.le_refl _) _)
      · have e1 : ((bst (nameL (k : Int))).toList == (bst (nmL l)).toList) = false := by rw [str_same]; exact decide_eq_false h2
        have HM := Lib.hid h2
        clear h2
        go_wp2
        exact ⟨⟨k + 1, by omega, by omega, by go_num, by trivial, fun j a b => by
          by_cases q : j = k
          · subst q; exact HM.out
          · exact HO.out j a (by omega)⟩, by simp [intOf]; omega⟩
    · have HN := Lib.hid (parseF_none (l := l) (fun j a b => HO.out j a (by omega)))
      have d1 : ¬ (k : Int) ≤ 10 := by omega
      go_wp2
      (try simp only [Exit.inBlock, Exit.then])
      have e := load_fd 58 Tryd.underlying58 rfl size_fd ((HF.out.set_ 0 (.int .i64 0)).set_ 1 (.bool false))
      refine bodyPost_ret (v := .tuple #[.agg #[.int .i64 0, .bool false], .bool false]) (by rw [results_cell_tmp rfl]; simp [asAddr, Result.andThen, e]) rfl ?_
      exact PFPost.no HN.out ((HB.out.setCell (Nat.le_refl _) _).setCell (Nat.le_refl _) _)

/-- What is left where fields and an error are handed back. -/
def PrPost (w : World) (fs : List Fd) (er : Int) (e : Ending) (w' : World) : Prop := ∃ A n c, e = .returned (.tuple #[.slice A n c, .int .i64 er]) ∧ Fds w' w'.heap.size A n fs ∧ n ≤ c ∧ Below w.heap.size w w'
theorem PrPost.no {w w' : World} {fs : List Fd} {er a : Int} (hp : a = er ∧ [] = fs) (hb : Below w.heap.size w w') : PrPost w fs er (.returned (.tuple #[.slice none 0 0, .int .i64 a])) w' := by
  obtain ⟨rfl, rfl⟩ := hp
  exact ⟨none, 0, 0, rfl, Fds.none_, Nat.le_refl _, hb⟩
/-- What is left to do, as a number. -/
def pm : Value → Value → Nat
  | .string s, .bool true => s.size + 1
  | _, _ => 0
/-- All parts are parsed. -/
def PEnd (l : List UInt8) (ds : List Fd) : Prop := (l = [] ∧ ds = []) ∨ (l ≠ [] ∧ PAt l ds none)
theorem PEnd.many {l : List UInt8} {ds : List Fd} (h : PEnd l ds) (hd : 255 < ds.length) : prsE l = 5 ∧ prsL l = [] := by
  rcases h with ⟨rfl, rfl⟩ | ⟨h1, h2⟩
  · simp at hd
  · exact prs_many h1 h2 hd
theorem PEnd.ok {l : List UInt8} {ds : List Fd} (h : PEnd l ds) (hd : ¬ 255 < ds.length) : prsE l = 0 ∧ prsL l = ds := by
  rcases h with ⟨rfl, rfl⟩ | ⟨h1, h2⟩
  · exact prs_nil
  · exact prs_ok h1 h2 hd
theorem PEnd.kinds {l : List UInt8} {ds : List Fd} (h : PEnd l ds) : ∀ f ∈ ds, 1 ≤ f.k ∧ f.k ≤ 10 := by
  rcases h with ⟨rfl, rfl⟩ | ⟨h1, h2⟩
  · simp
  · exact parseAll_kinds h2
theorem chk_take {ds : List Fd} (h : ∀ f ∈ ds, 1 ≤ f.k ∧ f.k ≤ 10) : chkL (ds.take 256) = if 255 < ds.length then 5 else 0 := by
  by_cases q : 255 < ds.length
  · rw [if_pos q]; exact chkL_many (by simp; omega)
  · rw [if_neg q, List.take_of_length_le (by omega)]
    exact chkL_ok q (fun j f _ hf => h f (List.mem_of_getElem? hf))

set_option maxRecDepth 100000 in
set_option maxHeartbeats 4000000 in
theorem tparse_any (l : List UInt8) (w : World) (hT : Nam w) (hll : l.length ≤ 100000) :
    Calls Tryd.prog 23 #[.string (bst l)] w (PrPost w (prsL l) (prsE l)) := by
  have HT := Lib.hid (fun V (h : Below w.heap.size w V) => hT.below h)
  clear hT
  obtain ⟨b, hb⟩ : ∃ b : Bool, b = !decide (l = []) := ⟨_, rfl⟩
  have hne : (!(bst l).toList.isEmpty) = b := by
    rw [hb, Lib.toList_data, bst_toList]
    cases l <;> simp
  go_enter Tryd.func23, Tryd.ntmps23
  go_wp2
  go_loopw [0, 4, 5] (fun t v m wr => ∃ (ds : List Fd) (r : List UInt8) (mo : Bool) (n : Nat), t = .string (bst r) ∧ m = .bool mo ∧ n ≤ 256 ∧ r.length ≤ 100000 ∧ Hid (mo = true → l ≠ [] ∧ PAt l ds (some r)) ∧ Hid (mo = false → PEnd l ds) ∧ Hid (FRow wr w.heap.size 58 v n (ds.take 256)) ∧ Hid (Below w.heap.size w wr)) (fun t _ m _ => pm t m)
  case atStart =>
    refine ⟨[], l, b, 0, rfl, by first | rw [hb] | rw [hne] | rfl, by omega, hll, Lib.hid (fun q => ?_), Lib.hid (fun q => ?_), MineR.nil _ _ _ _, Below.refl _ _⟩
    · rw [hb] at q
      simp at q
      exact ⟨q, PAt.start l⟩
    · rw [hb] at q
      simp at q
      exact .inl ⟨q, rfl⟩
  case round =>
    clear hne hb
    obtain ⟨ds, r, mo, n, rfl, rfl, hn256, hr, HP0, HE0, HR, HB⟩ := hrel
    obtain ⟨Ar, cr, rfl, hcr⟩ := MineR.slice HR.out
    cases mo
    · have HEE := Lib.hid (HE0.out rfl)
      have HKD := Lib.hid (chk_take HEE.out.kinds)
      have HFD := Lib.hid (show Fds wr wr.heap.size (some ⟨0, 0, none⟩) 0 [] from Fds.none_)
      clear HP0 HE0 HFD
      have HC := Lib.hid (tcheck_any Ar n cr wr.heap.size (ds.take 256) wr (MineR.rws HR.out) (Nat.le_refl _))
      rw [HKD.out] at HC
      by_cases hd : 255 < ds.length
      · rw [if_pos hd] at HC
        have HD := Lib.hid hd
        go_wp2_with fail
        (with_reducible refine HC.out.mono ?_)
        rintro e w1 ⟨rfl, h1⟩
        have B1 := Lib.hid (HB.out.trans (h1.mono HB.out.size))
        clear h1
        go_wp2
        go_ret2
        exact PrPost.no (by obtain ⟨q1, q2⟩ := HEE.out.many HD.out; exact ⟨q1.symm, q2.symm⟩) B1.out
      · rw [if_neg hd] at HC
        have HD := Lib.hid hd
        go_wp2_with fail
        (with_reducible refine HC.out.mono ?_)
        rintro e w1 ⟨rfl, h1⟩
        have B1 := Lib.hid (HB.out.trans (h1.mono HB.out.size))
        have F1 := Lib.hid ((Rws.below (MineR.rws HR.out) h1).more h1.size)
        clear h1
        go_wp2
        go_ret2
        obtain ⟨q1, q2⟩ := HEE.out.ok HD.out
        exact ⟨Ar, n, cr, by rw [q1]; rfl, by rw [q2]; have q3 := F1.out; rwa [List.take_of_length_le (by have := HD.out; omega)] at q3, hcr, B1.out⟩
    · have HL := Lib.hid (HP0.out rfl).1
      have HP := Lib.hid (HP0.out rfl).2
      clear HP0 HE0
      rcases hcm : comma r with _ | i
      · have HC := Lib.hid hcm
        have HU := Lib.hid (fun V => cut_any r V hr)
        rw [hcm] at HU
        have hpl : (r).length ≤ 100000 := by exact hr
        rcases hpf : parseF (r) with _ | f
        · have HPF := Lib.hid (fun V (h : Below w.heap.size w V) => (parseField_any (r) V (HT.out _ h)).mono fun _ _ q => q.none_ hpf)
          have HE := Lib.hid (prs_bad HL.out (HP.out.badLast hcm hpf))
          clear hcm hpf
          go_wp2_with fail
          (with_reducible refine (HU.out _).mono ?_)
          rintro e w1 ⟨rfl, hs1⟩
          have B1 := Lib.hid (HB.out.trans (hs1.below _))
          clear hs1
          go_wp2_with fail
          (with_reducible refine (HPF.out _ B1.out).mono ?_)
          rintro e w2 ⟨⟨k, d, rfl⟩, h2⟩
          have B2 := Lib.hid (B1.out.trans (h2.mono B1.out.size))
          clear h2
          go_wp2
          go_ret2
          exact PrPost.no ⟨HE.out.1.symm, HE.out.2.symm⟩ (B2.out.alloc B2.out.size _)
        · have HPF := Lib.hid (fun V (h : Below w.heap.size w V) => (parseField_any (r) V (HT.out _ h)).mono fun _ _ q => q.some_ hpf)
          have HS := Lib.hid (HP.out.last hcm hpf)
          clear hcm hpf
          by_cases hn : n ≤ 255
          · have hd : ds.take 256 = ds ∧ (ds ++ [f]).take 256 = ds ++ [f] := by
              have q : ds.length ≤ 255 := by have := MineR.slice HR.out; have := HR.out.2.1; rw [List.length_map, List.length_take] at this; omega
              exact ⟨List.take_of_length_le (by omega), List.take_of_length_le (by simp; omega)⟩
            have HD := Lib.hid hd
            clear hd
            go_wp2_with fail
            (with_reducible refine (HU.out _).mono ?_)
            rintro e w1 ⟨rfl, hs1⟩
            have B1 := Lib.hid (HB.out.trans (hs1.below _))
            have R1 := Lib.hid (MineR.below HR.out (hs1.below wr.heap.size) (fun g hg => (MineR.lt HR.out g hg).2))
            clear hs1
            go_wp2_with fail
            (with_reducible refine (HPF.out _ B1.out).mono ?_)
            rintro e w2 ⟨rfl, h2⟩
            have B2 := Lib.hid (B1.out.trans (h2.mono B1.out.size))
            have R2 := Lib.hid (MineR.below R1.out h2 (fun g hg => (MineR.lt R1.out g hg).2))
            clear h2
            have HM := Lib.hid (fun (o1 o2 : Obj) => (MineR.alloc R2.out o1).alloc o2)
            have hz2 := B2.out.size
            have HSB := Lib.hid (fun (o1 o2 : Obj) => show Below w.heap.size w ((w2.alloc o1).alloc o2) from (B2.out.alloc hz2 _).alloc (by simp; omega) _)
            go_wp2_with (at_builtin
                         refine wpList_append_rws ((w2.alloc (.cells #[.int .i64 f.k, .bool f.f] 58)).alloc (.cells #[.int .i64 f.k, .bool f.f] 58)) rfl (.tmp 29) (.tmp 31) _ rfl Tryd.underlying30 info_fd rfl (by decide) w.heap.size (.slice Ar n cr) n _ rfl (HM.out _ _) ⟨w2.heap.size + 1, 0, none⟩ 1 (fcs f) rfl rfl (by have := two_cells (w := w2.alloc (.cells #[.int .i64 f.k, .bool f.f] 58)) (t := 58) (a := .int .i64 f.k) (b := .bool f.f); rwa [World.size_alloc] at this) (by intro u hu; simp [fcs] at hu; rcases hu with rfl | rfl <;> rfl) (by omega) (by unfold maxLen; omega) (by simp; omega) ?_
                         intro v4 w4 hm4 hg4 _
                         have M4 := Lib.hid (FRow.snoc hm4)
                         have C4 := Lib.hid (below_mine (HSB.out _ _) (HM.out _ _) hg4 (Nat.le_refl _) (by simp; omega))
                         clear hm4 hg4)
            go_wp2
            exact ⟨⟨ds ++ [f], [], false, n + 1, rfl, rfl, by omega, by simp, Lib.hid (fun q => by cases q), Lib.hid (fun _ => Or.inr ⟨HL.out, HS.out⟩), by have := M4; rw [HD.out.1] at this; rw [HD.out.2]; exact this, C4⟩, by simp [pm]⟩
          · have hd : (ds ++ [f]).take 256 = ds.take 256 := by
              have q : 256 ≤ ds.length := by have := HR.out.2.1; rw [List.length_map, List.length_take] at this; omega
              rw [List.take_append_of_le_length q]
            have HD := Lib.hid hd
            clear hd
            go_wp2_with fail
            (with_reducible refine (HU.out _).mono ?_)
            rintro e w1 ⟨rfl, hs1⟩
            have B1 := Lib.hid (HB.out.trans (hs1.below _))
            have R1 := Lib.hid (MineR.below HR.out (hs1.below wr.heap.size) (fun g hg => (MineR.lt HR.out g hg).2))
            clear hs1
            go_wp2_with fail
            (with_reducible refine (HPF.out _ B1.out).mono ?_)
            rintro e w2 ⟨rfl, h2⟩
            have B2 := Lib.hid (B1.out.trans (h2.mono B1.out.size))
            have R2 := Lib.hid (MineR.below R1.out h2 (fun g hg => (MineR.lt R1.out g hg).2))
            clear h2
            go_wp2
            exact ⟨⟨ds ++ [f], [], false, n, rfl, rfl, hn256, by simp, Lib.hid (fun q => by cases q), Lib.hid (fun _ => Or.inr ⟨HL.out, HS.out⟩), by rw [HD.out]; exact MineR.alloc R2.out _, B2.out.alloc B2.out.size _⟩, by simp [pm]⟩
      · have HC := Lib.hid hcm
        have HU := Lib.hid (fun V => cut_any r V hr)
        rw [hcm] at HU
        have hpl : (r.take i).length ≤ 100000 := by simp; omega
        rcases hpf : parseF (r.take i) with _ | f
        · have HPF := Lib.hid (fun V (h : Below w.heap.size w V) => (parseField_any (r.take i) V (HT.out _ h)).mono fun _ _ q => q.none_ hpf)
          have HE := Lib.hid (prs_bad HL.out (HP.out.bad hcm hpf))
          clear hcm hpf
          go_wp2_with fail
          (with_reducible refine (HU.out _).mono ?_)
          rintro e w1 ⟨rfl, hs1⟩
          have B1 := Lib.hid (HB.out.trans (hs1.below _))
          clear hs1
          go_wp2_with fail
          (with_reducible refine (HPF.out _ B1.out).mono ?_)
          rintro e w2 ⟨⟨k, d, rfl⟩, h2⟩
          have B2 := Lib.hid (B1.out.trans (h2.mono B1.out.size))
          clear h2
          go_wp2
          go_ret2
          exact PrPost.no ⟨HE.out.1.symm, HE.out.2.symm⟩ (B2.out.alloc B2.out.size _)
        · have HPF := Lib.hid (fun V (h : Below w.heap.size w V) => (parseField_any (r.take i) V (HT.out _ h)).mono fun _ _ q => q.some_ hpf)
          have HS := Lib.hid (HP.out.step hcm hpf)
          clear hcm hpf
          by_cases hn : n ≤ 255
          · have hd : ds.take 256 = ds ∧ (ds ++ [f]).take 256 = ds ++ [f] := by
              have q : ds.length ≤ 255 := by have := MineR.slice HR.out; have := HR.out.2.1; rw [List.length_map, List.length_take] at this; omega
              exact ⟨List.take_of_length_le (by omega), List.take_of_length_le (by simp; omega)⟩
            have HD := Lib.hid hd
            clear hd
            go_wp2_with fail
            (with_reducible refine (HU.out _).mono ?_)
            rintro e w1 ⟨rfl, hs1⟩
            have B1 := Lib.hid (HB.out.trans (hs1.below _))
            have R1 := Lib.hid (MineR.below HR.out (hs1.below wr.heap.size) (fun g hg => (MineR.lt HR.out g hg).2))
            clear hs1
            go_wp2_with fail
            (with_reducible refine (HPF.out _ B1.out).mono ?_)
            rintro e w2 ⟨rfl, h2⟩
            have B2 := Lib.hid (B1.out.trans (h2.mono B1.out.size))
            have R2 := Lib.hid (MineR.below R1.out h2 (fun g hg => (MineR.lt R1.out g hg).2))
            clear h2
            have HM := Lib.hid (fun (o1 o2 : Obj) => (MineR.alloc R2.out o1).alloc o2)
            have hz2 := B2.out.size
            have HSB := Lib.hid (fun (o1 o2 : Obj) => show Below w.heap.size w ((w2.alloc o1).alloc o2) from (B2.out.alloc hz2 _).alloc (by simp; omega) _)
            go_wp2_with (at_builtin
                         refine wpList_append_rws ((w2.alloc (.cells #[.int .i64 f.k, .bool f.f] 58)).alloc (.cells #[.int .i64 f.k, .bool f.f] 58)) rfl (.tmp 29) (.tmp 31) _ rfl Tryd.underlying30 info_fd rfl (by decide) w.heap.size (.slice Ar n cr) n _ rfl (HM.out _ _) ⟨w2.heap.size + 1, 0, none⟩ 1 (fcs f) rfl rfl (by have := two_cells (w := w2.alloc (.cells #[.int .i64 f.k, .bool f.f] 58)) (t := 58) (a := .int .i64 f.k) (b := .bool f.f); rwa [World.size_alloc] at this) (by intro u hu; simp [fcs] at hu; rcases hu with rfl | rfl <;> rfl) (by omega) (by unfold maxLen; omega) (by simp; omega) ?_
                         intro v4 w4 hm4 hg4 _
                         have M4 := Lib.hid (FRow.snoc hm4)
                         have C4 := Lib.hid (below_mine (HSB.out _ _) (HM.out _ _) hg4 (Nat.le_refl _) (by simp; omega))
                         clear hm4 hg4)
            go_wp2
            exact ⟨⟨ds ++ [f], r.drop (i + 1), true, n + 1, rfl, rfl, by omega, by simp; omega, Lib.hid (fun _ => ⟨HL.out, HS.out⟩), Lib.hid (fun q => by cases q), by have := M4; rw [HD.out.1] at this; rw [HD.out.2]; exact this, C4⟩, by have := (comma_some HC.out).1; simp [pm, bst_size]; omega⟩
          · have hd : (ds ++ [f]).take 256 = ds.take 256 := by
              have q : 256 ≤ ds.length := by have := HR.out.2.1; rw [List.length_map, List.length_take] at this; omega
              rw [List.take_append_of_le_length q]
            have HD := Lib.hid hd
            clear hd
            go_wp2_with fail
            (with_reducible refine (HU.out _).mono ?_)
            rintro e w1 ⟨rfl, hs1⟩
            have B1 := Lib.hid (HB.out.trans (hs1.below _))
            have R1 := Lib.hid (MineR.below HR.out (hs1.below wr.heap.size) (fun g hg => (MineR.lt HR.out g hg).2))
            clear hs1
            go_wp2_with fail
            (with_reducible refine (HPF.out _ B1.out).mono ?_)
            rintro e w2 ⟨rfl, h2⟩
            have B2 := Lib.hid (B1.out.trans (h2.mono B1.out.size))
            have R2 := Lib.hid (MineR.below R1.out h2 (fun g hg => (MineR.lt R1.out g hg).2))
            clear h2
            go_wp2
            exact ⟨⟨ds ++ [f], r.drop (i + 1), true, n, rfl, rfl, hn256, by simp; omega, Lib.hid (fun _ => ⟨HL.out, HS.out⟩), Lib.hid (fun q => by cases q), by rw [HD.out]; exact MineR.alloc R2.out _, B2.out.alloc B2.out.size _⟩, by have := (comma_some HC.out).1; simp [pm, bst_size]; omega⟩
end Go.Proofs.YtdpddkpfllioiaaDoor
