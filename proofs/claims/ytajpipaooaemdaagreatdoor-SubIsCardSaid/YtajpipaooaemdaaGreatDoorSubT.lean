/-
  sub.Sub, sub.Strip, sub.Under: a tree of those pairs, which shares what it can; one node is made at most.
-/
import Derived.Test.YtajpipaooaemdaaGreatDoorSubR
import Derived.Test.YtajpipaooaemdaaGreatDoorSubM
namespace Go.Proofs.YtajpipaooaemdaaGreatDoor
open Go.RowKit

theorem OCan.ow {ps : List PV} {T : Nn × Fo} (h : OCan ps (some T)) (o : Int) : OCan ps (some (newT o T.1.part T)) := by
  have h : Can ps T := h
  exact ⟨h.top, h.wf, h.good, h.list⟩
theorem part_back {l key : List UInt8} {a : Nat} (h : begB l (key.drop a) = true) : key ++ l.drop (key.length - a) = key.take a ++ l := by
  obtain ⟨s, hs⟩ := begB_iff.1 h
  subst hs
  rw [show key.length - a = (key.drop a).length by rw [List.length_drop], List.drop_left, ← List.append_assoc, List.take_append_drop]
/-- What is behind some bytes has short parts. -/
theorem reach_short {ps : List PV} {t : Option (Nn × Fo)} (h : OCan ps t) (hr : Rsn ps) {M : Nat} (hl : ∀ p ∈ ps, p.key.length ≤ M) {key : List UInt8} {T : Nn × Fo} (hs : osub t key = some T) : key.length + T.1.part.length ≤ M := by
  obtain ⟨qs, hqs⟩ : ∃ qs : List PV, qs.map kvP = stripK key ps := ⟨(stripK key ps).map fun p => ⟨none, 0, 0, p.1, p.2⟩, by rw [List.map_map]; exact List.map_id' _⟩
  have h1 := h.strip hr key hqs
  rw [hs] at h1
  obtain ⟨p, hp⟩ := tlist_some (Can.good h1)
  have h2 := (tlist_begs p hp).length_le
  rw [Can.list h1, hqs] at hp
  obtain ⟨z, hz, e⟩ := List.mem_map.1 ((strip_mem p).1 hp)
  have h3 := hl z hz
  injection e with e _
  have e := congrArg List.length e
  rw [List.length_append] at e
  omega
set_option maxRecDepth 100000 in
/-- Bytes put behind others that have no room. -/
theorem cat_run {w : World} {B n m c1 k : Nat} {A A1 : Option Addr} {l l1 : List UInt8} (hk : Byt w B A n l) (hB : B ≤ w.heap.size) (h1 : Byt w w.heap.size A1 m l1) (hle : n + m ≤ 140737488355328) (hkk : n + m = k) :
    ∃ A2 c2 w2, (Builtin.append_ #[23, 23] 23 #[.slice A n n, .slice A1 m c1]).run Tryz.prog w = .ok (.slice A2 k c2) w2 ∧ Byt w2 w2.heap.size A2 k (l ++ l1) ∧ (∀ i, Pb A2 (l ++ l1) i → i < B ∨ w.heap.size ≤ i) ∧ Below w.heap.size w w2 := by
  obtain ⟨A2, c2, w2, r1, r2, r3⟩ := (Wy.of_byt hk).append hB (c1 := c1) h1 hle hkk
  have b2 : Below w.heap.size w w2 := r3.below (Nat.le_refl _) (fun i q => q.elim)
  refine ⟨A2, c2, w2, r1, r2.byt (Nat.le_trans hB b2.size), fun i hi => ?_, b2⟩
  rcases r2.is with ⟨_, h2⟩ | ⟨_, _, h2⟩
  · obtain ⟨_, ad, rfl, rfl⟩ := hi
    rcases h2 _ rfl with q | q
    · exact q.elim
    · exact .inr q
  · have h3 := h2.1
    rw [← h3] at h2
    exact .inl (h2.ltPb hi)
set_option maxRecDepth 100000 in
/-- sub.cut. -/
theorem scut_any (A : Option Addr) (n c i j : Nat) (hi : i ≤ j) (hj : j ≤ n) (hc : n ≤ c) (w : World) :
    Calls Tryz.prog 27 #[.slice A n c, .int .i64 (i : Int), .int .i64 (j : Int)] w fun e w' => ∃ A', e = .returned (.slice A' (j - i) (j - i)) ∧ w' = w ∧ ∀ V B l, Byt V B A n l → Byt V B A' (j - i) ((l.take j).drop i) ∧ ∀ b, Pb A' ((l.take j).drop i) b → Pb A l b := by
  have hs : ∀ V : World, (Instr.slice 23 (.slice A n c) (some (.int .i64 (i : Int))) (some (.int .i64 (j : Int))) (some (.int .i64 (j : Int)))).run Tryz.prog V = .ok (.slice (cutA A i j 1) (j - i) (j - i)) V := fun V => by
    have he : Tryz.prog.elem 23 = 5 := by simp [Program.elem, Tryz.underlying23]
    rw [run_slice_lhm V 23 A n c (by rw [he]; exact Tryz.underlying23) .i64 .i64 .i64 (i : Int) (j : Int) (j : Int) (by omega) (by omega) (by omega) (by omega), he, run_size_k size_u8]
    simp [sliced, cutA]
  have HQ := Lib.hid (show ∀ V B l, Byt V B A n l → Byt V B (cutA A i j 1) (j - i) ((l.take j).drop i) ∧ ∀ b, Pb (cutA A i j 1) ((l.take j).drop i) b → Pb A l b from fun V B l h => by
    have h2 := (h.take hj).cut_ i j hi (Nat.le_refl _) (Nat.le_refl _)
    rw [List.take_take, Nat.min_self] at h2
    exact ⟨h2, fun b hb => Pb.cut_ hb⟩)
  go_enter Tryz.func27, Tryz.ntmps27
  go_wp2
  go_ret
  exact ⟨_, rfl, rfl, HQ.out⟩
set_option maxRecDepth 100000 in
theorem scut0_any (A : Option Addr) (n c j : Nat) (hj : j ≤ n) (hc : n ≤ c) (w : World) :
    Calls Tryz.prog 27 #[.slice A n c, .int .i64 0, .int .i64 (j : Int)] w fun e w' => ∃ A', e = .returned (.slice A' j j) ∧ w' = w ∧ ∀ V B l, Byt V B A n l → Byt V B A' j (l.take j) :=
  (scut_any A n c 0 j (Nat.zero_le _) hj hc w).mono fun _ _ ⟨A', h1, h2, h3⟩ => ⟨A', h1, h2, fun V B l h => (h3 V B l h).1⟩
/-- What a copy of a node with another part leaves. -/
def RnPost (S : Nat → Prop) (w : World) (m : Option Nat) (rest : List Value) (cnt : Int) (T : Nn × Fo) (e : Ending) (w' : World) : Prop :=
  ∃ u, e = .returned (.pointer (some ⟨u, 0, none⟩)) ∧ Tre w' (fun i => S i ∨ (w.heap.size ≤ i ∧ i < w'.heap.size)) T.1 T.2 u ∧ Kept (fun i => m = some i) w w' ∧ ∀ q, m = some q → Lst w' q (.int .i64 (cnt + 1) :: rest)
set_option maxRecDepth 100000 in
set_option maxHeartbeats 1000000 in
theorem renamed_any {w : World} {x : Nn} {k : Fo} {g : Nat} {S : Nat → Prop} {o : Int} {rest : List Value} (m : Option Nat) (cnt : Int) (hx : Tre w S x k g) (ho : 1 ≤ o) (hm : Mt w m rest cnt) (hmS : ∀ i, m = some i → ¬ S i) (hS : ∀ i, S i → i < w.heap.size)
    {A : Option Addr} {n c : Nat} {l : List UInt8} (ha : Byt w w.heap.size A n l) (hA : ∀ i, Pb A l i → m ≠ some i) (hn : n ≤ 140737488355328) :
    Calls Tryz.prog 26 #[.pointer (some ⟨g, 0, none⟩), .slice A n c, .int .u64 o, mtr m] w (RnPost S w m rest cnt (newT o l (x, k))) := by
  have HC := Lib.hid (Nin.copy hx o m cnt hm hmS)
  have HS := Lib.hid hS
  have HA := Lib.hid (fun W (h : Kept (fun i => m = some i) w W) => show Byt W W.heap.size A n l from by
    have hl := ha.1
    subst hl
    exact (ha.keepPb fun p hp => h.cell (ha.ltPb hp) (fun e => hA _ hp e)).more h.size)
  have HMT := Lib.hid (fun (q : Nat) (hq : m = some q) => show q < w.heap.size from hm.lt hq)
  clear hx hm hmS hS ha hA
  go_enter Tryz.func26, Tryz.ntmps26
  go_wp2_with fail
  (with_reducible refine HC.out.mono ?_)
  rintro e w1 ⟨u, rfl, n1, k1, m1⟩
  have M1 := Lib.hid m1
  have K1 := Lib.hid k1
  have HSP := Lib.hid (n1.setpart (c := c) rfl (show o ≠ 0 by omega) (fun i q => by have := HS.out i q; omega) (HA.out w1 k1) (Nat.le_refl _) hn)
  clear n1 k1 m1 HC
  go_wp2_with fail
  (with_reducible refine HSP.out.mono ?_)
  rintro e w2 ⟨rfl, n2, k2⟩
  have N2 := Lib.hid (n2.there.tre)
  have K2 := Lib.hid k2
  clear n2 k2 HSP
  go_wp2_with fail
  go_ret
  refine ⟨u, rfl, N2.out.mono (fun i q => q.imp id (fun z => ⟨z.1.elim id (fun y => Nat.le_trans K1.out.size y), z.2⟩)), K1.out.thru K2.out (fun i hi q => by omega), fun q hq => K2.out.blk (M1.out q hq) (fun z => ?_)⟩
  have := HMT.out q hq
  omega
theorem OTow.onB {w w' : World} {o : Int} {t : Option (Nn × Fo)} {p : Option Addr} {D : Nat → Prop} (h : OTow w o (fun _ => False) t p D) (hb : Below w.heap.size w w') : OTow w' o (fun _ => False) t p (fun i => D i ∧ i < w.heap.size) := by
  cases t with
  | none => exact h
  | some T =>
    obtain ⟨g, e, h1⟩ := h
    exact ⟨g, e, h1.there.kept (N := fun i => w.heap.size ≤ i) (Kept.of_below' hb) (fun i q => q.elim) (fun i q => Nat.not_le.2 q.2)⟩
theorem OTow.hereS {w : World} {o : Int} {S D : Nat → Prop} {t : Option (Nn × Fo)} {p : Option Addr} (h : OTow w o S t p D) : OTre w (· < w.heap.size) t p := by
  cases t with
  | none => exact h
  | some T =>
    obtain ⟨g, e, h1⟩ := h
    exact ⟨g, e, h1.tre.there.mono fun _ q => q.2⟩
theorem OTre.keptS {w w' : World} {S N : Nat → Prop} {t : Option (Nn × Fo)} {p : Option Addr} (h : OTre w S t p) (hk : Kept N w w') (hS : ∀ i, S i → ¬ N i) : OTre w' S t p := by
  cases t with
  | none => exact h
  | some T =>
    obtain ⟨g, e, h1⟩ := h
    exact ⟨g, e, h1.kept hk hS⟩
/-- What Sub, Strip and Under leave. -/
def TwPost (S : Nat → Prop) (w : World) (p : Option Addr) (m : Option Nat) (rest : List Value) (cnt : Int) (qs : List PV) (P : Prop) (e : Ending) (w' : World) : Prop :=
  ∃ (p' : Option Addr) (T' : Option (Nn × Fo)) (j : Int), e = .returned (.tuple #[.pointer p', .int .i64 0]) ∧ OTre w' (fun i => S i ∨ (w.heap.size ≤ i ∧ i < w'.heap.size)) T' p' ∧ OCan qs T' ∧ (P → p' = p ∧ j = 0) ∧ 0 ≤ j ∧ j ≤ 1 ∧ Kept (fun i => m = some i) w w' ∧ ∀ q, m = some q → Lst w' q (.int .i64 (cnt + j) :: rest)
section
variable {w w0 w' : World} {p p' : Option Addr} {S : Nat → Prop} {m : Option Nat} {rest : List Value} {cnt : Int} {qs : List PV} {P : Prop} {T' : Option (Nn × Fo)}
theorem tw_found (hb : Below w.heap.size w w') (hm : Mt w m rest cnt) (h : OTre w' S T' p') (hc : OCan qs T') (hp : P → p' = p) : TwPost S w p m rest cnt qs P (.returned (.tuple #[.pointer p', .int .i64 0])) w' :=
  ⟨p', T', 0, rfl, OTre.mono h (fun _ q => .inl q), hc, fun q => ⟨hp q, rfl⟩, by omega, by omega, Kept.of_below hb, fun q hq => by
    have := (hm.on hb q hq).1
    rwa [Int.add_zero]⟩
theorem tw_made {T : Nn × Fo} {u : Nat} (hb : Below w.heap.size w w0) (h1 : Tre w' (fun i => S i ∨ (w0.heap.size ≤ i ∧ i < w'.heap.size)) T.1 T.2 u) (h2 : Kept (fun i => m = some i) w0 w') (h3 : ∀ q, m = some q → Lst w' q (.int .i64 (cnt + 1) :: rest)) (hc : OCan qs (some T)) (hP : ¬ P) :
    TwPost S w p m rest cnt qs P (.returned (.tuple #[.pointer (some ⟨u, 0, none⟩), .int .i64 0])) w' :=
  ⟨_, some T, 1, rfl, ⟨u, rfl, h1.mono (fun i q => q.imp id (fun z => ⟨Nat.le_trans hb.size z.1, z.2⟩))⟩, hc, fun q => absurd q hP, by omega, by omega, (Kept.of_below hb).trans h2, h3⟩
end
section
variable {w : World} {t : Option (Nn × Fo)} {p A : Option Addr} {S : Nat → Prop} {m : Option Nat} {rest : List Value} {cnt o : Int} {n c B : Nat} {key : List UInt8} {ps qs : List PV}
set_option maxRecDepth 100000 in
set_option maxHeartbeats 2000000 in
theorem sub_any (ho : 1 ≤ o) (ht : OTre w S t p) (hS : ∀ i, S i → i < w.heap.size) (hcan : OCan ps t) (hr : Rsn ps) (hl : ∀ p ∈ ps, p.key.length ≤ 1000000) (hm : Mt w m rest cnt) (hmS : ∀ i, m = some i → ¬ S i ∧ B ≤ i) (hk : Byt w B A n key) (hB : B ≤ w.heap.size) (hnc : n ≤ c) (hn : n ≤ 1000000) :
    Calls Tryz.prog 10 #[.pointer p, .slice A n c, .int .u64 o, mtr m] w (TwPost S w p m rest cnt (subS key ps) (topB t key ∨ t = none)) := by
  have HR := Lib.hid (reached_any w.heap.size S t p A n c key w (Nat.le_refl _) hS ht (hk.more hB) hnc hn)
  have h0 : (o == 0) = false := by simp; omega
  have HPN := Lib.hid (show t = none → p = none from fun e => by subst e; exact ht)
  have HSH := Lib.hid (fun T (h : osub t key = some T) => reach_short hcan hr hl h)
  have HCN := Lib.hid (hcan.subs hr key)
  have HCT := Lib.hid hcan
  have HSS := Lib.hid hS
  have HMT := Lib.hid hm
  have HMS := Lib.hid hmS
  have HK := Lib.hid (fun V (h : Below w.heap.size w V) => (hk.below (h.mono hB)))
  have HKL := Lib.hid hk.1
  have HBB := Lib.hid hB
  have HN := Lib.hid hn
  have HO := Lib.hid ho
  obtain ⟨M, hM⟩ : ∃ M, mtr m = M := ⟨_, rfl⟩
  have HM := Lib.hid hM
  rw [hM]
  clear ht hS hcan hr hl hm hmS hk hB hM hn ho
  go_enter Tryz.func10, Tryz.ntmps10
  go_wp2_with fail
  (with_reducible refine HR.out.mono ?_)
  rintro e w1 ⟨q, a, rfl, b1, hta, hcs⟩
  have B1 := Lib.hid b1
  have HTA := Lib.hid hta
  have HCS := Lib.hid hcs
  clear b1 hta hcs HR
  by_cases ha : a = 0
  · subst ha
    have HF := Lib.hid (show TwPost S w p m rest cnt (subS key ps) (topB t key ∨ t = none) (.returned (.tuple #[.pointer q, .int .i64 0])) w1 from by
      rcases HCS.out with ⟨rfl, _, hs⟩ | ⟨x, k, g, hq, hT, _, hb, hs, h0⟩
      · have hc := HCN.out
        rw [hs] at hc
        refine tw_found (T' := none) B1.out HMT.out rfl hc (fun h => ?_)
        rcases h with ⟨T, rfl, h⟩ | h
        · rw [show osub (some T) key = tsub T.1 T.2 key from rfl, tsub_beg h] at hs
          cases hs
        · exact (HPN.out h).symm
      · obtain ⟨h1, h2⟩ := h0 rfl
        have hc := HCN.out
        rw [hs] at hc
        have e1 := part_back hb
        rw [List.take_zero, List.nil_append] at e1
        have e2 : (some (partT (x.part.drop (key.length - 0)) (x, k))).map (preT key) = some (x, k) := by
          show some ((⟨x.leaf, x.ow, key ++ x.part.drop (key.length - 0), x.val, x.has⟩ : Nn), k) = _
          rw [e1]
        rw [e2] at hc
        exact tw_found (T' := some (x, k)) B1.out HMT.out ⟨g, hq, hT⟩ hc (fun _ => h2))
    go_wp2_with fail
    go_ret2
    exact HF.out
  · rcases HCS.out with ⟨_, h, _⟩ | ⟨x, k, g, rfl, hT, hak, hb, hs, _⟩
    · exact absurd h ha
    have ha0 : ((a : Int) == 0) = false := by simp; exact ha
    have hlen := HSH.out _ hs
    have hpl : x.part.length ≤ 2000000 := by
      have h1 : (partT (x.part.drop (key.length - a)) (x, k)).1.part.length = x.part.length - (key.length - a) := List.length_drop
      rw [h1] at hlen
      omega
    have HPL := Lib.hid hpl
    have hcn := HCN.out
    rw [hs] at hcn
    have hcf : OCan (subS key ps) (some (newT o (key.take a ++ x.part) (x, k))) := by
      have h2 := OCan.ow hcn o
      have e1 := part_back hb
      rw [← e1]
      exact h2
    have HCF := Lib.hid hcf
    have HNP := Lib.hid (show ¬ (topB t key ∨ t = none) from fun h => by
      rcases h with h | h
      · exact ha (HTA.out h)
      · rw [h] at hs
        cases hs)
    have hakn : a ≤ n := by have := HKL.out; omega
    have HAN := Lib.hid hakn
    have HC := Lib.hid (scut0_any A n c a hakn hnc w1)
    have HT := Lib.hid hT
    have SZ1 := Lib.hid B1.out.size
    clear hT hak hb hs hlen hpl hcn hcf hakn HCS
    go_wp2_with fail
    (with_reducible refine HC.out.mono ?_)
    rintro e w2 ⟨A2, rfl, rfl, hcut⟩
    obtain ⟨be, A', ek, hN, _⟩ := HT.out.nod
    have HCUT := Lib.hid hcut
    have HP := Lib.hid (npart_any hN)
    clear hcut hN HC
    go_wp2_with fail
    (with_reducible refine HP.out.mono ?_)
    rintro e w3 ⟨A3, c3, rfl, y3, _, b3⟩
    have b13 : Below w.heap.size w w3 := B1.out.trans (b3.mono SZ1.out)
    obtain ⟨kk, hkk⟩ : ∃ z, a + x.part.length = z := ⟨_, rfl⟩
    obtain ⟨A4, c4, w4, hrun, y4, pb4, b4⟩ := cat_run (c1 := c3) (HCUT.out w3 B key (HK.out w3 b13)) (Nat.le_trans HBB.out b13.size) y3 (by have := HPL.out; have := HAN.out; have := HN.out; show a + x.part.length ≤ _; omega) hkk
    have b14 : Below w.heap.size w w4 := b13.trans (b4.mono b13.size)
    have T4 : Tre w4 S x k g := HT.out.kept (D := fun i => w2.heap.size ≤ i) (Kept.of_below' (b3.trans (b4.mono b3.size))) (fun i q z => by have := HSS.out i q; have := SZ1.out; omega)
    have HRN := renamed_any (o := o) m cnt T4 HO.out (HMT.out.on b14) (fun i e => (HMS.out i e).1) (fun i q => Nat.lt_of_lt_of_le (HSS.out i q) b14.size) (c := c4) y4 (fun i hi e => by
      have h1 := (HMS.out i e).2
      have h2 := HMT.out.lt e
      have h3 := b13.size
      rcases pb4 i hi with z | z <;> omega) (by have := HPL.out; have := HAN.out; have := HN.out; omega)
    rw [HM.out] at HRN
    have HRN := Lib.hid HRN
    have B14 := Lib.hid b14
    clear y3 b3 b13 y4 pb4 b4 b14 T4 HP hkk
    go_wp2_with (at_builtin; refine Lib.wpList_append_run _ rfl _ _ _ _ rfl _ _ rfl rfl _ _ hrun ?_)
    (with_reducible refine HRN.out.mono ?_)
    rintro e w5 ⟨u, rfl, h1, h2, h3⟩
    have HF := Lib.hid (tw_made (p := p) B14.out h1 h2 h3 HCF.out HNP.out)
    clear h1 h2 h3 HRN
    go_wp2_with fail
    go_ret2
    exact HF.out
set_option maxRecDepth 100000 in
set_option maxHeartbeats 2000000 in
theorem strip_any (ho : 1 ≤ o) (ht : OTre w S t p) (hS : ∀ i, S i → i < w.heap.size) (hcan : OCan ps t) (hr : Rsn ps) (hl : ∀ p ∈ ps, p.key.length ≤ 1000000) (hq : qs.map kvP = stripK key ps) (hm : Mt w m rest cnt) (hmS : ∀ i, m = some i → ¬ S i ∧ B ≤ i) (hk : Byt w B A n key) (hB : B ≤ w.heap.size) (hnc : n ≤ c) (hn : n ≤ 1000000) :
    Calls Tryz.prog 12 #[.pointer p, .slice A n c, .int .u64 o, mtr m] w (TwPost S w p m rest cnt qs (key = [])) := by
  have HR := Lib.hid (reached_any w.heap.size S t p A n c key w (Nat.le_refl _) hS ht (hk.more hB) hnc hn)
  have h0 : (o == 0) = false := by simp; omega
  have HPN := Lib.hid (show t = none → p = none from fun e => by subst e; exact ht)
  have HSH := Lib.hid (fun T (h : osub t key = some T) => reach_short hcan hr hl h)
  have HCN := Lib.hid (hcan.strip hr key hq)
  have HSS := Lib.hid hS
  have HMT := Lib.hid hm
  have HMS := Lib.hid hmS
  have HKL := Lib.hid hk.1
  have HN := Lib.hid hn
  have HO := Lib.hid ho
  obtain ⟨M, hM⟩ : ∃ M, mtr m = M := ⟨_, rfl⟩
  have HM := Lib.hid hM
  rw [hM]
  clear ht hS hcan hr hl hq hm hmS hk hB hM hn ho
  go_enter Tryz.func12, Tryz.ntmps12
  go_wp2_with fail
  (with_reducible refine HR.out.mono ?_)
  rintro e w1 ⟨q, a, rfl, b1, hta, hcs⟩
  have B1 := Lib.hid b1
  rcases hcs with ⟨rfl, rfl, hs⟩ | ⟨x, k, g, rfl, hT, hak, hb, hs, hz⟩
  · have HF := Lib.hid (show ∀ V, Below w1.heap.size w1 V → TwPost S w p m rest cnt qs (key = []) (.returned (.tuple #[.pointer none, .int .i64 0])) V from fun V hV => by
      have hc := HCN.out
      rw [hs] at hc
      refine tw_found (T' := none) (B1.out.trans (hV.mono B1.out.size)) HMT.out rfl hc (fun h => ?_)
      subst h
      cases t with
      | none => exact (HPN.out rfl).symm
      | some T =>
        rw [show osub (some T) [] = tsub T.1 T.2 [] from rfl, tsub_beg (beg_nil _)] at hs
        cases hs)
    have HK := Lib.hid (nkind_nil w1)
    clear b1 hta hs HR
    go_wp2_with fail
    (with_reducible refine HK.out.mono ?_)
    rintro e w2 ⟨rfl, rfl⟩
    go_wp2_with fail
    go_ret2
    exact HF.out _ (Below.refl _ _)
  · obtain ⟨be, A', ek, hN, _⟩ := hT.nod
    have hkd := kindD_ne (x.nd ek)
    have HK := nkind_any hN
    obtain ⟨kd, hkd2⟩ : ∃ z, kindD (x.nd ek) = z := ⟨_, rfl⟩
    rw [hkd2] at HK hkd
    have hkne : (kd == 0) = false := by simpa using hkd
    have HK := Lib.hid HK
    have SZ1 := Lib.hid b1.size
    have hcn := HCN.out
    rw [hs] at hcn
    have hlen := HSH.out _ hs
    have hakn : a ≤ n := by have := HKL.out; omega
    by_cases han : a = n
    · subst han
      have HF := Lib.hid (show ∀ V, Below w1.heap.size w1 V → TwPost S w p m rest cnt qs (key = []) (.returned (.tuple #[.pointer (some ⟨g, 0, none⟩), .int .i64 0])) V from fun V hV => by
        rw [HKL.out, Nat.sub_self, List.drop_zero] at hcn
        refine tw_found (T' := some (x, k)) (B1.out.trans (hV.mono B1.out.size)) HMT.out ⟨g, rfl, hT.below HSS.out (hV.mono SZ1.out)⟩ hcn (fun h => ?_)
        subst h
        have h1 := HKL.out
        exact (hz h1.symm).2)
      clear b1 hta hT hak hb hs hz hN hkd hkd2 hcn hlen hakn HR
      go_wp2_with fail
      (with_reducible refine HK.out.mono ?_)
      rintro e w2 ⟨rfl, s2⟩
      have HE := Lib.hid (HF.out w2 (s2.below _))
      clear s2 HK
      go_wp2_with fail
      go_ret2
      exact HE.out
    · have hane : ((a : Int) == (n : Int)) = false := by simp; omega
      have HCF := Lib.hid (show OCan qs (some (newT o (x.part.drop (n - a)) (x, k))) from by
        have h2 := OCan.ow hcn o
        rw [HKL.out] at h2
        exact h2)
      have hb2 := (begB_iff.1 hb).length_le
      rw [List.length_drop, HKL.out] at hb2
      obtain ⟨pl, hpl⟩ : ∃ z, x.part.length = z := ⟨_, rfl⟩
      have HPL := Lib.hid hpl
      rw [hpl] at hb2
      have hpm : pl ≤ 2000000 := by
        have h1 : (partT (x.part.drop (key.length - a)) (x, k)).1.part.length = x.part.length - (key.length - a) := List.length_drop
        rw [h1, hpl] at hlen
        have := HKL.out
        omega
      obtain ⟨d, hd⟩ : ∃ z, n - a = z := ⟨_, rfl⟩
      rw [hd] at hb2 HCF
      have hw : IntKind.i64.wrap ((n : Int) - (a : Int)) = (d : Int) := by have := HN.out; rw [IntKind.wrap_i64]; omega
      have HNP := Lib.hid (show ¬ key = [] from fun h => by
        subst h
        have h1 : (0 : Nat) = n := HKL.out
        omega)
      have HPM := Lib.hid hpm
      have HB2 := Lib.hid hb2
      have HT := Lib.hid hT
      clear b1 hta hT hak hb hs hz hN hkd hkd2 hcn hlen hakn han hd hpl hpm hb2 HR
      go_wp2_with fail
      (with_reducible refine HK.out.mono ?_)
      rintro e w2 ⟨rfl, s2⟩
      have b12 : Below w1.heap.size w1 w2 := s2.below _
      have T2 := Lib.hid (HT.out.below HSS.out (b12.mono SZ1.out))
      have B2 := Lib.hid (B1.out.trans (b12.mono SZ1.out))
      obtain ⟨be2, A2, ek2, hN2, _⟩ := T2.out.nod
      have HP := npartm_any hN2
      unfold ClmPost at HP
      rw [show (x.nd ek2).part = x.part from rfl, HPL.out] at HP
      have HP := Lib.hid HP
      clear s2 b12 hN2 HK
      go_wp2_with fail
      (with_reducible refine HP.out.mono ?_)
      rintro e w3 ⟨A3, c3, rfl, y3, hc3, pb3, b3⟩
      have HCU := Lib.hid (scut_any A3 pl c3 d pl HB2.out (Nat.le_refl _) hc3 w3)
      have Y3 := Lib.hid y3
      have PB3 := Lib.hid pb3
      have b13 : Below w.heap.size w w3 := B2.out.trans (b3.mono B2.out.size)
      have B3 := Lib.hid b13
      have T3 := Lib.hid (T2.out.below HSS.out (b3.mono B2.out.size))
      clear y3 hc3 pb3 b3 b13 HP T2
      go_wp2_with fail
      (with_reducible refine HCU.out.mono ?_)
      rintro e w4 ⟨A4, rfl, rfl, hcut⟩
      obtain ⟨y4, pb4⟩ := hcut w4 w4.heap.size x.part Y3.out
      rw [show x.part.take pl = x.part from List.take_of_length_le (by rw [HPL.out]; exact Nat.le_refl _)] at y4 pb4
      have HRN := renamed_any (o := o) m cnt T3.out HO.out (HMT.out.on B3.out) (fun i e => (HMS.out i e).1) (fun i q => Nat.lt_of_lt_of_le (HSS.out i q) B3.out.size) (c := pl - d) y4 (fun i hi e => by
        have h2 := HMT.out.lt e
        have h3 := B2.out.size
        have h4 := PB3.out i (pb4 i hi)
        omega) (by have := HPM.out; omega)
      rw [HM.out] at HRN
      have HRN := Lib.hid HRN
      clear hcut y4 pb4 HCU
      go_wp2_with fail
      (with_reducible refine HRN.out.mono ?_)
      rintro e w5 ⟨u, rfl, h1, h2, h3⟩
      have HF := Lib.hid (tw_made (p := p) B3.out h1 h2 h3 HCF.out HNP.out)
      clear h1 h2 h3 HRN
      go_wp2_with fail
      go_ret2
      exact HF.out
set_option maxRecDepth 100000 in
set_option maxHeartbeats 2000000 in
/-- sub.Under, of a tree that lies apart. -/
theorem under_any {o1 : Int} {D : Nat → Prop} (ho : 1 ≤ o) (ht : OTre w S t p) (htw : OTow w o1 (fun _ => False) t p D) (hall : oall (fun q => q = o1) t) (hS : ∀ i, S i → i < w.heap.size) (hcan : OCan ps t) (hl : ∀ p ∈ ps, p.key.length ≤ 1000000) (hq : qs.map kvP = ps.map fun p => (key ++ p.key, p.val)) (hr : Rsn ps) (hm : Mt w m rest cnt) (hmS : ∀ i, m = some i → ¬ S i ∧ B ≤ i) (hk : Byt w B A n key) (hB : B ≤ w.heap.size) (hnc : n ≤ c) (hn : n ≤ 1000000) (hfit : t = none ∨ n = 0 ∨ olng t + n ≤ 65535) :
    Calls Tryz.prog 18 #[.pointer p, .slice A n c, .int .u64 o, mtr m] w (TwPost S w p m rest cnt qs (key = [] ∨ t = none)) := by
  have h0 : (o == 0) = false := by simp; omega
  have HCN := Lib.hid (hcan.pre hr key hq)
  have HSS := Lib.hid hS
  have HMT := Lib.hid hm
  have HMS := Lib.hid hmS
  have HKL := Lib.hid hk.1
  have HN := Lib.hid hn
  have HO := Lib.hid ho
  have HK2 := Lib.hid (fun V (h : Below w.heap.size w V) => (hk.below (h.mono hB)))
  have HBB := Lib.hid hB
  obtain ⟨M, hM⟩ : ∃ M, mtr m = M := ⟨_, rfl⟩
  have HM := Lib.hid hM
  rw [hM]
  cases t with
  | none =>
    obtain rfl : p = none := ht
    have HF := Lib.hid (show TwPost S w none m rest cnt qs (key = [] ∨ (none : Option (Nn × Fo)) = none) (.returned (.tuple #[.pointer none, .int .i64 0])) w from tw_found (T' := none) (Below.refl _ _) HMT.out rfl HCN.out (fun _ => rfl))
    have HK := Lib.hid (nkind_nil w)
    clear htw hall hS hcan hl hq hr hm hmS hk hB hM hn ho hfit
    go_enter Tryz.func18, Tryz.ntmps18
    go_wp2_with fail
    (with_reducible refine HK.out.mono ?_)
    rintro e w2 ⟨rfl, rfl⟩
    go_wp2_with fail
    go_ret2
    exact HF.out
  | some T =>
    obtain ⟨x, k⟩ := T
    obtain ⟨g, rfl, hT⟩ := ht
    obtain ⟨be, A', ek, hN, _⟩ := hT.nod
    have hkd := kindD_ne (x.nd ek)
    have HK := nkind_any hN
    obtain ⟨kd, hkd2⟩ : ∃ z, kindD (x.nd ek) = z := ⟨_, rfl⟩
    rw [hkd2] at HK hkd
    have hkne : (kd == 0) = false := by simpa using hkd
    have HK := Lib.hid HK
    have HT := Lib.hid hT
    have hpl : x.part.length ≤ 1000000 := by
      obtain ⟨z, hz⟩ := tlist_some (Can.good (show Can ps (x, k) from hcan))
      have h2 := (tlist_begs z hz).length_le
      rw [Can.list (show Can ps (x, k) from hcan)] at hz
      obtain ⟨y, hy, rfl⟩ := List.mem_map.1 hz
      exact Nat.le_trans h2 (hl y hy)
    have HPL := Lib.hid hpl
    by_cases hn0 : n = 0
    · subst hn0
      have HF := Lib.hid (show ∀ V, Below w.heap.size w V → TwPost S w (some ⟨g, 0, none⟩) m rest cnt qs (key = [] ∨ (some (x, k) : Option (Nn × Fo)) = none) (.returned (.tuple #[.pointer (some ⟨g, 0, none⟩), .int .i64 0])) V from fun V hV => by
        have hc := HCN.out
        have hk0 : key = [] := List.eq_nil_of_length_eq_zero HKL.out
        rw [hk0] at hc
        exact tw_found (T' := some (x, k)) hV HMT.out ⟨g, rfl, HT.out.below HSS.out hV⟩ hc (fun _ => rfl))
      clear htw hall hS hcan hl hq hr hm hmS hk hB hM hn ho hfit hT hN hkd hkd2 hpl
      go_enter Tryz.func18, Tryz.ntmps18
      go_wp2_with fail
      (with_reducible refine HK.out.mono ?_)
      rintro e w2 ⟨rfl, s2⟩
      have HE := Lib.hid (HF.out w2 (s2.below _))
      clear s2 HK
      go_wp2_with fail
      go_ret2
      exact HE.out
    · have hn0' : ((n : Int) == 0) = false := by simp; exact hn0
      have hfit' : olng (some (x, k)) + n ≤ 65535 := by
        rcases hfit with h | h | h
        · cases h
        · exact absurd h hn0
        · exact h
      have hpos : 0 ≤ olng (some (x, k)) := lng_pos (Can.good (show Can ps (x, k) from hcan))
      have HLG := Lib.hid (fun V (h : Below w.heap.size w V) => longest_any (OTow.onB htw h) hall (OCan.gd hcan) (show olng (some (x, k)) ≤ 1000000 by omega))
      obtain ⟨lg, hlg⟩ : ∃ z, olng (some (x, k)) = z := ⟨_, rfl⟩
      rw [hlg] at HLG hfit' hpos
      have ew : IntKind.i64.wrap (lg + (n : Int)) = lg + (n : Int) := by rw [IntKind.wrap_i64]; omega
      have hgt : decide ((65535 : Int) < lg + (n : Int)) = false := decide_eq_false (by omega)
      have HNP := Lib.hid (show ¬ (key = [] ∨ (some (x, k) : Option (Nn × Fo)) = none) from fun h => by
        rcases h with h | h
        · subst h
          exact hn0 HKL.out.symm
        · cases h)
      have HCF := Lib.hid (show OCan qs (some (newT o (key ++ x.part) (x, k))) from OCan.ow HCN.out o)
      have HCU := Lib.hid (fun V => scut0_any A n c n (Nat.le_refl _) hnc V)
      have HKT := Lib.hid (show key.take n = key from List.take_of_length_le (by rw [HKL.out]; exact Nat.le_refl _))
      clear htw hall hS hcan hl hq hr hm hmS hk hB hM hn ho hfit hfit' hpos hlg hT hN hkd hkd2 hpl hn0
      go_enter Tryz.func18, Tryz.ntmps18
      go_wp2_with fail
      (with_reducible refine HK.out.mono ?_)
      rintro e w2 ⟨rfl, s2⟩
      have B2 := Lib.hid (s2.below w.heap.size)
      have HL2 := Lib.hid (HLG.out w2 B2.out)
      clear s2 HK
      go_wp2_with fail
      (with_reducible refine HL2.out.mono ?_)
      rintro e w3 ⟨rfl, b3⟩
      have B3 := Lib.hid (B2.out.trans (b3.mono B2.out.size))
      have HC3 := Lib.hid (HCU.out w3)
      clear b3 HL2
      go_wp2_with fail
      (with_reducible refine HC3.out.mono ?_)
      rintro e w4 ⟨A2, rfl, rfl, hcut⟩
      have HCUT := Lib.hid hcut
      have T4 := Lib.hid (HT.out.below HSS.out B3.out)
      obtain ⟨be4, A4, ek4, hN4, _⟩ := T4.out.nod
      have HP := Lib.hid (npart_any hN4)
      clear hcut hN4 HC3
      go_wp2_with fail
      (with_reducible refine HP.out.mono ?_)
      rintro e w5 ⟨A3, c3, rfl, y3, _, b3⟩
      have b13 : Below w.heap.size w w5 := B3.out.trans (b3.mono B3.out.size)
      obtain ⟨kk, hkk⟩ : ∃ z, n + x.part.length = z := ⟨_, rfl⟩
      obtain ⟨A6, c6, w6, hrun, y6, pb6, b6⟩ := cat_run (c1 := c3) (HCUT.out w5 B key (HK2.out w5 b13)) (Nat.le_trans HBB.out b13.size) y3 (by have := HPL.out; have := HN.out; show n + x.part.length ≤ _; omega) hkk
      rw [HKT.out] at y6 pb6
      have b16 : Below w.heap.size w w6 := b13.trans (b6.mono b13.size)
      have T6 : Tre w6 S x k g := HT.out.below HSS.out b16
      have HRN := renamed_any (o := o) m cnt T6 HO.out (HMT.out.on b16) (fun i e => (HMS.out i e).1) (fun i q => Nat.lt_of_lt_of_le (HSS.out i q) b16.size) (c := c6) y6 (fun i hi e => by
        have h1 := (HMS.out i e).2
        have h2 := HMT.out.lt e
        have h3 := b13.size
        rcases pb6 i hi with z | z <;> omega) (by have := HPL.out; have := HN.out; omega)
      rw [HM.out] at HRN
      have HRN := Lib.hid HRN
      have B16 := Lib.hid b16
      clear y3 b3 b13 y6 pb6 b6 b16 T6 HP hkk
      go_wp2_with (at_builtin; refine Lib.wpList_append_run _ rfl _ _ _ _ rfl _ _ rfl rfl _ _ hrun ?_)
      (with_reducible refine HRN.out.mono ?_)
      rintro e w7 ⟨u, rfl, h1, h2, h3⟩
      have HF := Lib.hid (tw_made (p := some ⟨g, 0, none⟩) B16.out h1 h2 h3 HCF.out HNP.out)
      clear h1 h2 h3 HRN
      go_wp2_with fail
      go_ret2
      exact HF.out
set_option maxRecDepth 100000 in
/-- Too long a key. -/
theorem under_big {o1 : Int} {D : Nat → Prop} {M : Value} (ho : 1 ≤ o) (htw : OTow w o1 (fun _ => False) t p D) (hall : oall (fun q => q = o1) t) (hg : ogd t) (hne : t ≠ none) (hl : olng t ≤ 1000000) (hn : n ≤ 1000000) (hfit : 65535 < olng t + n) (hn0 : n ≠ 0) :
    Calls Tryz.prog 18 #[.pointer p, .slice A n c, .int .u64 o, M] w fun e w' => e = .returned (.tuple #[.pointer none, .int .i64 8]) ∧ Below w.heap.size w w' := by
  cases t with
  | none => exact absurd rfl hne
  | some T =>
    obtain ⟨x, k⟩ := T
    obtain ⟨g, rfl, hT⟩ := id htw
    obtain ⟨be, A', ek, hN, _⟩ := hT.tre.nod
    have h0 : (o == 0) = false := by simp; omega
    have hkd := kindD_ne (x.nd ek)
    have HK := nkind_any hN
    obtain ⟨kd, hkd2⟩ : ∃ z, kindD (x.nd ek) = z := ⟨_, rfl⟩
    rw [hkd2] at HK hkd
    have hkne : (kd == 0) = false := by simpa using hkd
    have HK := Lib.hid HK
    have hn0' : ((n : Int) == 0) = false := by simp; exact hn0
    have hpos : 0 ≤ olng (some (x, k)) := lng_pos hg
    have HLG := Lib.hid (fun V (h : Below w.heap.size w V) => longest_any (OTow.onB htw h) hall hg hl)
    obtain ⟨lg, hlg⟩ : ∃ z, olng (some (x, k)) = z := ⟨_, rfl⟩
    rw [hlg] at HLG hfit hpos hl
    have ew : IntKind.i64.wrap (lg + (n : Int)) = lg + (n : Int) := by rw [IntKind.wrap_i64]; omega
    have hgt : decide ((65535 : Int) < lg + (n : Int)) = true := decide_eq_true (by omega)
    clear htw hall hg hne hl hn hfit hpos hlg hT hN hkd hkd2 hn0 ho
    go_enter Tryz.func18, Tryz.ntmps18
    go_wp2_with fail
    (with_reducible refine HK.out.mono ?_)
    rintro e w2 ⟨rfl, s2⟩
    have B2 := Lib.hid (s2.below w.heap.size)
    have HL2 := Lib.hid (HLG.out w2 B2.out)
    clear s2 HK
    go_wp2_with fail
    (with_reducible refine HL2.out.mono ?_)
    rintro e w3 ⟨rfl, b3⟩
    have B3 := Lib.hid (B2.out.trans (b3.mono B2.out.size))
    clear b3 HL2
    go_wp2_with fail
    go_ret2
    exact ⟨rfl, B3.out⟩
end
set_option maxRecDepth 100000 in
theorem sub_zero (p A : Option Addr) (n c : Nat) (M : Value) (w : World) : Calls Tryz.prog 10 #[.pointer p, .slice A n c, .int .u64 0, M] w fun e w' => e = .returned (.tuple #[.pointer none, .int .i64 1]) ∧ w' = w := by
  go_enter Tryz.func10, Tryz.ntmps10
  go_wp2
  go_ret2
  exact ⟨rfl, rfl⟩
set_option maxRecDepth 100000 in
theorem strip_zero (p A : Option Addr) (n c : Nat) (M : Value) (w : World) : Calls Tryz.prog 12 #[.pointer p, .slice A n c, .int .u64 0, M] w fun e w' => e = .returned (.tuple #[.pointer none, .int .i64 1]) ∧ w' = w := by
  go_enter Tryz.func12, Tryz.ntmps12
  go_wp2
  go_ret2
  exact ⟨rfl, rfl⟩
set_option maxRecDepth 100000 in
theorem under_zero (p A : Option Addr) (n c : Nat) (M : Value) (w : World) : Calls Tryz.prog 18 #[.pointer p, .slice A n c, .int .u64 0, M] w fun e w' => e = .returned (.tuple #[.pointer none, .int .i64 1]) ∧ w' = w := by
  go_enter Tryz.func18, Tryz.ntmps18
  go_wp2
  go_ret2
  exact ⟨rfl, rfl⟩
end Go.Proofs.YtajpipaooaemdaaGreatDoor
