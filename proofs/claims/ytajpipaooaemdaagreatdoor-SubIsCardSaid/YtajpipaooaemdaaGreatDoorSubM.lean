/-
  How long a tree's longest key is, by its nodes and by its pairs. No program is run.
  sub.Longest: how long the longest key of a tree is whose nodes are all one owner's and lie apart; each is gone through once, and none is met again.
-/
import Derived.Test.YtajpipaooaemdaaGreatDoorSubR
import Derived.Test.YtajpipaooaemdaaGreatDoorCanon
import Derived.Test.YtajpipaooaemdaaGreatDoorBuild
import Derived.Deep.CutBlock
import Derived.Deep.DeepCutAuto
import Derived.Deep.LoopGhost
import Derived.Carry
namespace Go.Proofs.YtajpipaooaemdaaGreatDoor
open Go.RowKit

/-- The greatest of a number and of how long the keys of a forest are. -/
def Fo.mx : Fo → Int → Int
  | .nil, m => m
  | .cons _ x k r, m => r.mx (max m ((if x.leaf then (x.part.length : Int) else k.mx (if x.has then 0 else -1) + x.part.length) + 1))
def lngT (x : Nn) (k : Fo) : Int := if x.leaf then (x.part.length : Int) else k.mx (if x.has then 0 else -1) + x.part.length
theorem Fo.mx_cons (b : UInt8) (x : Nn) (k r : Fo) (m : Int) : (Fo.cons b x k r).mx m = r.mx (max m (lngT x k + 1)) := rfl
theorem Fo.mx_le : ∀ (f : Fo) (m : Int), m ≤ f.mx m
  | .nil, m => Int.le_refl _
  | .cons b x k r, m => by
    rw [Fo.mx_cons]
    have := Fo.mx_le r (max m (lngT x k + 1))
    omega
structure Lng (L : List KV) (v : Int) : Prop where
  le : ∀ p ∈ L, (p.1.length : Int) ≤ v
  at_ : ∃ p ∈ L, (p.1.length : Int) = v
theorem lng_node {x : Nn} {k : Fo} (hg : tgood x k) (hk : ∀ m, (∀ p ∈ k.list [], (p.1.length : Int) ≤ k.mx m) ∧ (k.mx m = m ∨ ∃ p ∈ k.list [], (p.1.length : Int) = k.mx m)) : Lng (tlist x k []) (lngT x k) := by
  have h1 := hg.1
  unfold okN at h1
  cases hl : x.leaf with
  | true =>
    rw [hl] at h1
    simp only [if_true] at h1
    obtain ⟨rfl, hh⟩ := h1
    have e : lngT x .nil = x.part.length := by unfold lngT; rw [hl]; rfl
    rw [e]
    refine ⟨fun p hp => ?_, ⟨(x.part, x.val), mem_tlist.2 (.inl ⟨hh, rfl⟩), rfl⟩⟩
    rcases mem_tlist.1 hp with ⟨_, rfl⟩ | ⟨q, hq, _⟩
    · exact Int.le_refl _
    · cases hq
  | false =>
    rw [hl] at h1
    simp only [Bool.false_eq_true, if_false] at h1
    have e : lngT x k = k.mx (if x.has then 0 else -1) + x.part.length := by unfold lngT; rw [hl]; rfl
    rw [e]
    obtain ⟨h2, h3⟩ := hk (if x.has then 0 else -1)
    have h4 := Fo.mx_le k (if x.has then 0 else -1)
    refine ⟨fun p hp => ?_, ?_⟩
    · rcases mem_tlist.1 hp with ⟨hh, rfl⟩ | ⟨q, hq, rfl⟩
      · rw [hh] at h4 ⊢
        simp only [if_true] at h4 ⊢
        show (x.part.length : Int) ≤ _
        omega
      · have := h2 q hq
        dsimp only
        rw [List.length_append]
        omega
    · rcases h3 with h3 | ⟨q, hq, h3⟩
      · cases hh : x.has with
        | true =>
          rw [hh] at h3
          refine ⟨(x.part, x.val), mem_tlist.2 (.inl ⟨hh, rfl⟩), ?_⟩
          rw [h3]
          simp
        | false =>
          exfalso
          rw [hh] at h1 h3 h2
          cases k with
          | nil => simp [Fo.len] at h1
          | cons b y k' r =>
            obtain ⟨p, hp⟩ := tlist_some (x := y) (k := k') ⟨hg.2.1, hg.2.2.1⟩
            have := h2 (b :: p.1, p.2) (mem_fo.2 (.inl ⟨p, hp, rfl⟩))
            rw [h3] at this
            simp at this
            omega
      · refine ⟨(x.part ++ q.1, q.2), mem_tlist.2 (.inr ⟨q, hq, rfl⟩), ?_⟩
        dsimp only
        rw [List.length_append]
        omega
theorem Fo.mx_is : ∀ (f : Fo), f.good → ∀ m, (∀ p ∈ f.list [], (p.1.length : Int) ≤ f.mx m) ∧ (f.mx m = m ∨ ∃ p ∈ f.list [], (p.1.length : Int) = f.mx m)
  | .nil, _, m => ⟨fun p hp => (by cases hp), .inl rfl⟩
  | .cons b x k r, ⟨g1, g2, g3⟩, m => by
    have hx := lng_node ⟨g1, g2⟩ (Fo.mx_is k g2)
    obtain ⟨h1, h2⟩ := Fo.mx_is r g3 (max m (lngT x k + 1))
    have h3 := Fo.mx_le r (max m (lngT x k + 1))
    rw [Fo.mx_cons]
    refine ⟨fun p hp => ?_, ?_⟩
    · rcases mem_fo.1 hp with ⟨q, hq, rfl⟩ | hp
      · have := hx.le q hq
        dsimp only
        rw [List.length_cons]
        omega
      · exact h1 p hp
    · rcases h2 with h2 | ⟨q, hq, h2⟩
      · rcases Int.lt_or_le m (lngT x k + 1) with h4 | h4
        · obtain ⟨q, hq, e⟩ := hx.at_
          refine .inr ⟨(b :: q.1, q.2), mem_fo.2 (.inl ⟨q, hq, rfl⟩), ?_⟩
          dsimp only
          rw [List.length_cons, h2]
          omega
        · left
          rw [h2]
          omega
      · exact .inr ⟨q, mem_fo.2 (.inr hq), h2⟩
theorem lng_is {x : Nn} {k : Fo} (hg : tgood x k) : Lng (tlist x k []) (lngT x k) := lng_node hg (Fo.mx_is k hg.2)
theorem lng_pos {x : Nn} {k : Fo} (hg : tgood x k) : 0 ≤ lngT x k := by
  obtain ⟨p, _, e⟩ := (lng_is hg).at_
  omega
theorem mx_pos {x : Nn} {k : Fo} (hg : tgood x k) (hl : x.leaf = false) : 0 ≤ k.mx (if x.has then 0 else -1) := by
  obtain ⟨h2, h3⟩ := Fo.mx_is k hg.2 (if x.has then 0 else -1)
  rcases h3 with h3 | ⟨q, _, h3⟩
  · have h1 := hg.1
    unfold okN at h1
    rw [hl] at h1
    cases hh : x.has with
    | true => rw [hh] at h3; rw [h3]; exact Int.le_refl _
    | false =>
      exfalso
      rw [hh] at h1 h3 h2
      cases k with
      | nil => simp [Fo.len] at h1
      | cons b y k' r =>
        obtain ⟨p, hp⟩ := tlist_some (x := y) (k := k') ⟨hg.2.1, hg.2.2.1⟩
        have := h2 (b :: p.1, p.2) (mem_fo.2 (.inl ⟨p, hp, rfl⟩))
        rw [h3] at this
        simp at this
        omega
  · omega
/-- The document's Longest. -/
def lngS (ps : List PV) : Int := ps.foldl (fun n p => max n (p.key.length : Int)) 0
theorem lngS_snoc (ps : List PV) (p : PV) : lngS (ps ++ [p]) = max (lngS ps) (p.key.length : Int) := by
  unfold lngS
  rw [List.foldl_append]
  rfl
theorem lngS_take {ps : List PV} {k : Nat} {p : PV} (h : ps[k]? = some p) : lngS (ps.take (k + 1)) = max (lngS (ps.take k)) (p.key.length : Int) := by
  rw [List.take_add_one, h]
  exact lngS_snoc _ _
theorem lngS_all (ps : List PV) : 0 ≤ lngS ps ∧ (∀ p ∈ ps, (p.key.length : Int) ≤ lngS ps) ∧ (lngS ps = 0 ∨ ∃ p ∈ ps, (p.key.length : Int) = lngS ps) := by
  suffices H : ∀ (ps : List PV) (n : Int), 0 ≤ n → n ≤ ps.foldl (fun n p => max n (p.key.length : Int)) n ∧ (∀ p ∈ ps, (p.key.length : Int) ≤ ps.foldl (fun n p => max n (p.key.length : Int)) n) ∧ (ps.foldl (fun n p => max n (p.key.length : Int)) n = n ∨ ∃ p ∈ ps, (p.key.length : Int) = ps.foldl (fun n p => max n (p.key.length : Int)) n) from H ps 0 (Int.le_refl _)
  intro ps
  induction ps with
  | nil => exact fun n _ => ⟨Int.le_refl _, fun p hp => (by cases hp), .inl rfl⟩
  | cons q ps ih =>
    intro n hn
    obtain ⟨h1, h2, h3⟩ := ih (max n (q.key.length : Int)) (by omega)
    rw [List.foldl_cons]
    refine ⟨by omega, fun p hp => ?_, ?_⟩
    · rcases List.mem_cons.1 hp with rfl | hp
      · omega
      · exact h2 p hp
    · rcases h3 with h3 | ⟨p, hp, h3⟩
      · rcases Int.lt_or_le n (q.key.length : Int) with h4 | h4
        · exact .inr ⟨q, List.mem_cons_self .., by rw [h3]; omega⟩
        · left; rw [h3]; omega
      · exact .inr ⟨p, List.mem_cons_of_mem _ hp, h3⟩
theorem lngS_of {ps : List PV} {v : Int} (h : Lng (ps.map kvP) v) : lngS ps = v := by
  obtain ⟨h1, h2, h3⟩ := lngS_all ps
  obtain ⟨p, hp, e⟩ := h.at_
  obtain ⟨z, hz, rfl⟩ := List.mem_map.1 hp
  have h4 := h2 z hz
  have h5 : ((kvP z).1.length : Int) = z.key.length := rfl
  rcases h3 with h3 | ⟨y, hy, h3⟩
  · omega
  · have h6 := h.le (kvP y) (List.mem_map.2 ⟨y, hy, rfl⟩)
    have h7 : ((kvP y).1.length : Int) = y.key.length := rfl
    omega
def olng : Option (Nn × Fo) → Int
  | none => 0
  | some T => lngT T.1 T.2
def ogd : Option (Nn × Fo) → Prop
  | none => True
  | some T => tgood T.1 T.2
theorem OCan.gd {ps : List PV} {t : Option (Nn × Fo)} (h : OCan ps t) : ogd t := by
  cases t with
  | none => trivial
  | some T => exact Can.good h
theorem OCan.lng {ps : List PV} {t : Option (Nn × Fo)} (h : OCan ps t) : lngS ps = olng t := by
  cases t with
  | none =>
    obtain rfl : ps = [] := h
    rfl
  | some T =>
    have h1 := lng_is (Can.good h)
    rw [Can.list h] at h1
    exact lngS_of h1
end Go.Proofs.YtajpipaooaemdaaGreatDoor

namespace Go.Proofs.YtajpipaooaemdaaGreatDoor
open Go.RowKit

set_option maxRecDepth 100000 in
theorem nd_room : ∃ i, Tryz.prog.info? 77 = some i ∧ i.size ≠ 0 := by
  have h : (Tryz.prog.info? 77).map (fun i => decide (i.size ≠ 0)) = some true := by kernel_rfl
  rcases hi : Tryz.prog.info? 77 with _ | i
  · rw [hi] at h; cases h
  · rw [hi] at h
    simp only [Option.map_some, Option.some.injEq] at h
    exact ⟨i, rfl, of_decide_eq_true h⟩
set_option maxRecDepth 100000 in
theorem zero_int (w : World) : (zeroValue 3).run Tryz.prog w = .ok (.int .i64 0) w := by kernel_rfl
theorem Nod.kp {w : World} {g : Nat} {x : Nd} {b : Be} {A : Option Addr} (h : Nod w g x b A) : KpOk w (some g) := by
  intro i hi
  injection hi with hi
  subst hi
  obtain ⟨c, t, h2⟩ := h.blk
  exact ⟨_, t, h2⟩
theorem kept_map {w w' : World} {b : Nat} (h : w.grownBy w' (some b)) : Kept (· = b) w w' := ⟨h.os, h.tape, h.output, h.size, fun i hi hn => h.block i hi (fun e => hn (by injection e))⟩
/-- What is told of a tree. -/
def LgPost (w : World) (b : Nat) (Q : Option Nat → Prop) (D : Nat → Prop) (v : Int) (e : Ending) (w' : World) : Prop :=
  e = .returned (.int .i64 v) ∧ (∃ Q', Mp w' b Q' ∧ ∀ q, Q' q → Q q ∨ ∃ i, q = some i ∧ D i) ∧ Kept (· = b) w w'
def Longs (o : Int) (x : Nn) (k : Fo) : Prop :=
  ∀ (w : World) (g b : Nat) (D : Nat → Prop) (Q : Option Nat → Prop), TOw w o (fun _ => False) x k g D → x.ow = o → k.all (fun q => q = o) → tgood x k → lngT x k ≤ 1000000 → Mp w b Q → (∀ i, D i → ¬ Q (some i)) → ¬ D b →
    Calls Tryz.prog 34 #[.map (some b), .pointer (some ⟨g, 0, none⟩)] w (LgPost w b Q D (lngT x k))
/-- Where the loop stands. -/
def LgS (o : Int) (ek : List Ent) (k : Fo) (m0 : Int) (w : World) (b : Nat) (Q : Option Nat → Prop) (D Dk : Nat → Prop) (qn : Nat) (m : Int) (r : Fo) (er : List Ent) (wr : World) : Prop :=
  ∃ (i : Nat) (Dr : Nat → Prop) (Q' : Option Nat → Prop), r.len = qn ∧ ek.drop i = er ∧ r.Ow wr o (fun _ => False) er Dr ∧ (∀ j, Dr j → Dk j) ∧ r.all (fun q => q = o) ∧ r.good ∧ (r.All fun _ x k => Longs o x k) ∧ r.mx m = k.mx m0 ∧ -1 ≤ m ∧ Mp wr b Q' ∧ (∀ j, Dr j → ¬ Q' (some j)) ∧ (∀ q, Q' q → Q q ∨ ∃ i, q = some i ∧ D i) ∧ Kept (· = b) w wr
set_option maxHeartbeats 4000000 in
set_option maxRecDepth 100000 in
theorem longs_step {o : Int} (x : Nn) (k : Fo) (hK : k.All fun _ x k => Longs o x k) : Longs o x k := by
  intro w g b D Q ht hxo hko hg hlng hmp hdq hdb
  rcases ht with ⟨_, be, A', ek, De, Dk, t1, a1, a2, t3, a4, a5, a6⟩ | ⟨hne, _⟩
  case inr => exact absurd hxo hne
  have hpos := lng_pos hg
  have hkd : kindD (x.nd ek) = if x.leaf then 1 else (kindN k.len : Int) := by unfold kindD; rw [← t3.is.len]
  have HK := nkind_any t1
  rw [hkd] at HK
  have HK := Lib.hid HK
  have hgD : De g := a1 g (.inl rfl)
  have hgd : D g := a4 g hgD
  have hbg : b ≠ g := fun e => hdb (e ▸ hgd)
  have NW := Lib.hid (show ∀ W', Kept (· = b) w W' → Nod W' g (x.nd ek) be A' from fun W' hk' => t1.kept hk' (fun i hi q => by
    subst q
    rcases hi with hi | hi
    · exact hdb (a4 i (a1 i hi))
    · exact (a2 i hi).elim id (fun z => hdb (a4 i z))))
  have T3 := Lib.hid t3
  have MP := Lib.hid hmp
  have HDQ := Lib.hid hdq
  have HDB := Lib.hid hdb
  have HDE := Lib.hid (show De g ∧ (∀ i, De i → D i) ∧ (∀ i, Dk i → D i) ∧ (∀ i, De i → ¬ Dk i) from ⟨hgD, a4, a5, a6⟩)
  have HG := Lib.hid hg
  have HKO := Lib.hid hko
  have HKK := Lib.hid hK
  have UP := Lib.hid t1.up
  have HBG := Lib.hid hbg
  have HLN := Lib.hid hlng
  have HPO := Lib.hid hpos
  have hkn : ¬ (kindN k.len : Int) = 1 := kindN_ne _
  obtain ⟨pl, hpl⟩ : ∃ n, x.part.length = n := ⟨_, rfl⟩
  have HPL := Lib.hid hpl
  clear hkd t1 t3 hmp hdq hdb hgD hgd a1 a2 a4 a5 a6 hg hko hK hbg hlng hpos hpl
  cases hlf : x.leaf with
  | true =>
    have HE := Lib.hid (show ((x.part.length : Nat) : Int) = lngT x k from by unfold lngT; rw [hlf]; rfl)
    rw [hlf] at HK
    simp only [if_true] at HK
    clear hlf hkn
    go_enter Tryz.func34, Tryz.ntmps34
    go_wp2_with fail
    (with_reducible refine HK.out.mono ?_)
    rintro e w1 ⟨rfl, s1⟩
    have K1 := Lib.hid (show Kept (· = b) w w1 from Kept.still s1)
    have HP := Lib.hid (npart_any (NW.out w1 K1.out))
    have M1 := Lib.hid (MP.out.below (s1.below _))
    clear s1 HK
    go_wp2_with fail
    (with_reducible refine HP.out.mono ?_)
    rintro e w2 ⟨A2, c2, rfl, _, _, b2⟩
    have M2 := Lib.hid (M1.out.below b2)
    have K2 := Lib.hid (K1.out.trans (Kept.of_below b2))
    clear b2 HP
    go_wp2_with fail
    go_ret
    exact ⟨ret_int HE.out, ⟨Q, M2.out, fun q h => .inl h⟩, K2.out⟩
  | false =>
    have HLE := Lib.hid (show k.mx (if x.has then 0 else -1) + (x.part.length : Int) = lngT x k from by unfold lngT; rw [hlf]; rfl)
    have HMP := Lib.hid (mx_pos HG.out hlf)
    rw [hlf] at HK
    simp only [Bool.false_eq_true, if_false] at HK
    obtain ⟨kd, hkd⟩ : ∃ kd : Int, (kindN k.len : Int) = kd := ⟨_, rfl⟩
    rw [hkd] at HK hkn
    have hkb : (kd == 1) = false := by simpa using hkn
    clear hlf hkn hkd
    go_enter Tryz.func34, Tryz.ntmps34
    go_wp2_with fail
    (with_reducible refine HK.out.mono ?_)
    rintro e w1 ⟨rfl, s1⟩
    have K1 := Lib.hid (show Kept (· = b) w w1 from Kept.still s1)
    have M1 := Lib.hid (MP.out.below (s1.below _))
    have KP := Lib.hid ((NW.out w1 K1.out).kp)
    have NQ := Lib.hid (show ¬ Q (some g) from HDQ.out g (HDE.out.2.1 g HDE.out.1))
    clear s1 HK
    go_wp2_with (first
      | (at_lookup
         refine wpList_lookup_no rfl (.tmp 20) (.tmp 21) rfl Tryz.underlying72 Tryz.underlying28 nd_room (zero_int _) rfl M1.out (some g) rfl KP.out NQ.out ?_)
      | (at_mapUpdate
         refine wpList_mapUpdate_mp rfl (.tmp 27) (.tmp 28) _ rfl Tryz.underlying72 Tryz.underlying28 nd_room rfl M1.out (some g) rfl KP.out _ rfl ?_
         intro w2 hm2 hg2
         have M2 := Lib.hid hm2
         have K2 := Lib.hid (K1.out.trans (kept_map hg2))
         clear hm2 hg2))
    obtain ⟨hs, hhs⟩ : ∃ z, x.has = z := ⟨_, rfl⟩
    have HHS := Lib.hid hhs
    have HV := Lib.hid (show Calls Tryz.prog 41 #[.pointer (some ⟨g, 0, none⟩)] w2 fun e w' => e = .returned (.tuple #[.int .u64 x.val, .bool hs]) ∧ Still w2 w' from by rw [← hhs]; exact val_any (NW.out w2 K2.out))
    obtain ⟨m0, hm0⟩ : ∃ z : Int, (if hs then 0 else -1) = z := ⟨_, rfl⟩
    have HM0 := Lib.hid hm0
    clear hhs hm0
    go_wp2_with fail
    (with_reducible refine HV.out.mono ?_)
    rintro e w3 ⟨rfl, s3⟩
    have K3 := Lib.hid (K2.out.trans (Kept.still s3))
    have M3 := Lib.hid (M2.out.below (s3.below _))
    clear s3 HV
    go_upto_if 34 with fail
    go_cut [7] (fun v7 wc => v7 = .int .i64 m0 ∧ wc = w3)
    case first =>
      cases hs with
      | false =>
        go_wp2_with fail
        go_meet
        exact ⟨by rw [← HM0.out]; rfl, rfl⟩
      | true =>
        go_wp2_with fail
        go_meet
        exact ⟨by rw [← HM0.out]; rfl, rfl⟩
    case rest =>
      obtain ⟨rfl, hw⟩ := hcut
      subst hw
      have HX0 := Lib.hid (show k.mx m0 + (pl : Int) = lngT x k from by rw [← HM0.out, ← HHS.out, ← HPL.out]; exact HLE.out)
      have H0 := nnext_any (NW.out wc K3.out) 0 (by omega)
      rw [next_first] at H0
      unfold kidV at H0
      obtain ⟨z0, hz0⟩ : ∃ z0, eb ek[0]? = z0 := ⟨_, rfl⟩
      obtain ⟨p0, hp0⟩ : ∃ p0, ex ek[0]? = p0 := ⟨_, rfl⟩
      have H0 := Lib.hid (show Calls Tryz.prog 43 #[.pointer (some ⟨g, 0, none⟩), .int .i64 0] wc fun e w' => e = .returned (.tuple #[.int .u8 z0, .pointer p0]) ∧ Still wc w' from by rw [← hz0, ← hp0]; exact H0)
      have Z0 := Lib.hid hz0
      have P0 := Lib.hid hp0
      clear hz0 hp0 M1 M2 K1 K2 KP NQ
      go_wp2_with fail
      (with_reducible refine H0.out.mono ?_)
      rintro e w7 ⟨rfl, hs7⟩
      have rel0 : ∃ (m : Int) (r : Fo) (er : List Ent), Value.int .i64 m0 = .int .i64 m ∧ Value.int .u8 z0 = .int .u8 (eb er.head?) ∧ Value.pointer p0 = .pointer (ex er.head?) ∧ Hid (LgS o ek k m0 w b Q D Dk k.len m r er w7) := by
        have k7 : Kept (· = b) w w7 := K3.out.trans (Kept.still hs7)
        refine ⟨m0, k, ek, rfl, by rw [List.head?_eq_getElem?, Z0.out], by rw [List.head?_eq_getElem?, P0.out], Lib.hid ⟨0, Dk, _, rfl, rfl, Fo.Ow.kept k7 (fun i q => q.elim) (fun i q e => HDB.out (e ▸ HDE.out.2.2.1 i q)) T3.out, fun j q => q, HKO.out, HG.out.2, HKK.out, rfl, by rw [← HM0.out]; split <;> omega, M3.out.below (hs7.below _), fun j q z => ?_, fun q z => ?_, k7⟩⟩
        · rcases z with z | z
          · exact HDQ.out j (HDE.out.2.2.1 j q) z
          · injection z with z
            subst z
            exact HDE.out.2.2.2 j HDE.out.1 q
        · rcases z with z | z
          · exact .inl z
          · exact .inr ⟨g, z, HDE.out.2.1 g HDE.out.1⟩
      have R0 := Lib.hid rel0
      clear rel0 hs7 H0 M3 K3
      go_wp2_with fail
      go_loopg [7, 10, 11] k.len (fun qn vm vb vk wr => ∃ (m : Int) (r : Fo) (er : List Ent), vm = .int .i64 m ∧ vb = .int .u8 (eb er.head?) ∧ vk = .pointer (ex er.head?) ∧ Hid (LgS o ek k m0 w b Q D Dk qn m r er wr))
      case atStart => exact R0.out
      case round =>
        obtain ⟨m, r, er, rfl, rfl, rfl, HS⟩ := hrel
        obtain ⟨i, Dr, Q', q1, q2, q3, q4, q5, q6, q7, q8, q9, q10, q11, q12, q13⟩ := HS.out
        cases r with
        | nil =>
          obtain rfl : er = [] := q3
          have hmm : 0 ≤ m := by
            have h1 : m = k.mx m0 := q8
            have h2 := HMP.out
            rw [HHS.out, HM0.out] at h2
            omega
          have hne : (m != -1) = true := by simp; omega
          have hml : m + (pl : Int) = lngT x k := by rw [← HX0.out]; exact congrArg (· + (pl : Int)) q8
          have ew : IntKind.i64.wrap (m + (pl : Int)) = m + (pl : Int) := by have := HLN.out; rw [IntKind.wrap_i64]; omega
          have HML := Lib.hid hml
          have HP := npart_any (NW.out wr q13)
          have HP := Lib.hid (show Calls Tryz.prog 28 #[.pointer (some ⟨g, 0, none⟩)] wr fun e w' => ∃ A c, e = .returned (.slice A pl c) ∧ Below wr.heap.size wr w' from HP.mono fun e w' h => by
            obtain ⟨A2, c2, h1, _, _, h2⟩ := h
            exact ⟨A2, c2, by rw [h1, HPL.out], h2⟩)
          have MR := Lib.hid q10
          have KR := Lib.hid q13
          have QR := Lib.hid q12
          clear q1 q2 q4 q5 q6 q7 q8 q9 q10 q11 q12 q13 HS R0 hml hmm
          simp only [List.head?_nil, eb, ex]
          go_wp2_with fail
          (with_reducible refine HP.out.mono ?_)
          rintro e w8 ⟨A2, c2, rfl, b2⟩
          have M8 := Lib.hid (MR.out.below b2)
          have K8 := Lib.hid (KR.out.trans (Kept.of_below b2))
          have KP8 := Lib.hid ((NW.out w8 K8.out).kp)
          clear b2 HP MR KR
          go_wp2_with (at_mapUpdate
                       refine wpList_mapUpdate_mp rfl (.tmp 66) (.tmp 67) _ rfl Tryz.underlying72 Tryz.underlying28 nd_room rfl M8.out (some g) rfl KP8.out _ rfl ?_
                       intro w9 hm9 hg9
                       have M9 := Lib.hid hm9
                       have K9 := Lib.hid (K8.out.trans (kept_map hg9))
                       clear hm9 hg9)
          go_ret
          refine ⟨ret_int HML.out, ⟨_, M9.out, fun q z => ?_⟩, K9.out⟩
          rcases z with z | z
          · exact QR.out q z
          · exact .inr ⟨g, z, HDE.out.2.1 g HDE.out.1⟩
        | cons b' x' k' r' =>
          obtain ⟨g', er', D1, D2, rfl, y1, y2, y3, y4, y5⟩ := q3
          obtain ⟨o1, o2, o3⟩ := q5
          obtain ⟨u1, u2, u3⟩ := q6
          obtain ⟨hL, hLr⟩ := q7
          have he : ek[i]? = some (b', some ⟨g', 0, none⟩) := by rw [← List.head?_drop, q2]; rfl
          have hdr : ek.drop (i + 1) = er' := by rw [← List.drop_drop, q2]; rfl
          have hnx : ek[i + 1]? = er'.head? := by rw [← hdr, List.head?_drop]
          have HNX := Lib.hid (show nextE ek ((b'.toNat : Int) + 1) = er'.head? from (next_after UP.out he rfl).trans hnx)
          have hcb : b'.toNat < 256 := b'.toNat_lt
          have ewb : IntKind.i64.wrap ((b'.toNat : Int) + 1) = (b'.toNat : Int) + 1 := by rw [IntKind.wrap_i64]; omega
          have hl0 := lng_pos (x := x') (k := k') ⟨u1, u2⟩
          have hmx : r'.mx (max m (lngT x' k' + 1)) = k.mx m0 := q8
          have hml := Fo.mx_le r' (max m (lngT x' k' + 1))
          have hl1 : lngT x' k' + 1 ≤ 1000000 ∧ m ≤ 1000000 := by
            have h1 := HX0.out
            have h2 := HLN.out
            omega
          have HC := hL wr g' b D1 Q' y1 o1 o2 ⟨u1, u2⟩ (by omega) q10 (fun j z => q11 j (y3 j z)) (fun z => HDB.out (HDE.out.2.2.1 b (q4 b (y3 b z))))
          obtain ⟨l', hl'⟩ : ∃ z, lngT x' k' = z := ⟨_, rfl⟩
          rw [hl'] at HC hl0 hmx hml hl1
          obtain ⟨l1, hl1e⟩ : ∃ z, l' + 1 = z := ⟨_, rfl⟩
          have hne : (l' != -1) = true := by simp; omega
          have ewl : IntKind.i64.wrap (l' + 1) = l1 := by rw [IntKind.wrap_i64]; omega
          obtain ⟨m1, hm1⟩ : ∃ z : Int, max m l1 = z := ⟨_, rfl⟩
          have HM1 := Lib.hid hm1
          have HR' := Lib.hid (show r'.mx m1 = k.mx m0 ∧ -1 ≤ m1 from by
            rw [hl1e] at hmx
            rw [hm1] at hmx
            exact ⟨hmx, by omega⟩)
          have HC := Lib.hid HC
          have KR := Lib.hid q13
          have NX := Lib.hid (show ∀ (W : World) (Q2 : Option Nat → Prop), Mp W b Q2 → (∀ q, Q2 q → Q' q ∨ ∃ i, q = some i ∧ D1 i) → Kept (· = b) wr W → LgS o ek k m0 w b Q D Dk r'.len m1 r' er' W from fun W Q2 z1 z2 z3 =>
            ⟨i + 1, D2, Q2, rfl, hdr, y2.kept z3 (fun i q => q.elim) (fun j z e => HDB.out (e ▸ HDE.out.2.2.1 j (q4 j (y4 j z)))), fun j z => q4 j (y4 j z), o3, u3, hLr, HR'.out.1, HR'.out.2, z1, fun j z h => by
              rcases z2 _ h with h | ⟨i2, h, h2⟩
              · exact q11 j (y4 j z) h
              · injection h with h
                subst h
                exact y5 j h2 z, fun q h => by
              rcases z2 _ h with h | ⟨i2, h, h2⟩
              · exact q12 q h
              · exact .inr ⟨i2, h, HDE.out.2.2.1 i2 (q4 i2 (y3 i2 h2))⟩, q13.trans z3⟩)
          clear hL hLr he hdr hnx q2 q4 q8 q9 q10 q11 q12 q13 y1 y2 y3 y4 y5 o1 o2 o3 u1 u2 u3 hl0 hmx hml hl1 hl' hl1e hm1 R0 HS
          simp only [List.head?_cons, eb, ex]
          go_wp2_with fail
          (with_reducible refine HC.out.mono ?_)
          rintro e w8 ⟨rfl, ⟨Q2, h1, h2⟩, h3⟩
          have M8 := Lib.hid h1
          have S8 := Lib.hid h2
          have K8 := Lib.hid h3
          have XA := nnext_any (NW.out w8 (KR.out.trans h3)) ((b'.toNat : Int) + 1) (by omega)
          rw [HNX.out] at XA
          unfold kidV at XA
          have XA := Lib.hid XA
          clear h1 h2 h3 HC
          go_wp2_with fail
          (with_reducible refine XA.out.mono ?_)
          rintro e w9 ⟨rfl, s9⟩
          have FIN := Lib.hid (NX.out w9 Q2 (M8.out.below (s9.below _)) S8.out (K8.out.trans (Kept.still s9)))
          have hm1 := HM1.out
          clear s9 XA
          go_wp2_with fail
          go_roundg r'.len
          case measure => simp only [Fo.len] at q1; omega
          case rel => exact ⟨m1, r', er', by first | rfl | rw [hm1], rfl, rfl, FIN⟩
theorem longs_all (o : Int) (x : Nn) (k : Fo) : Longs o x k := longs_step x k (Fo.all_of (fun _ x k h => longs_step x k h) k)
set_option maxRecDepth 100000 in
set_option maxHeartbeats 1000000 in
theorem nil_any (b : Nat) (w : World) (hm : Mp w b (fun _ => False)) :
    Calls Tryz.prog 34 #[.map (some b), .pointer none] w fun e w' => e = .returned (.int .i64 (-1)) ∧ Kept (· = b) w w' := by
  have HK := Lib.hid (nkind_nil w)
  have M1 := Lib.hid hm
  have KP := Lib.hid (fun (V : World) => show KpOk V none from fun g e => by cases e)
  clear hm
  go_enter Tryz.func34, Tryz.ntmps34
  go_wp2_with fail
  (with_reducible refine HK.out.mono ?_)
  rintro e w1 ⟨rfl, rfl⟩
  go_wp2_with (first
    | (at_lookup
       refine wpList_lookup_no rfl (.tmp 20) (.tmp 21) rfl Tryz.underlying72 Tryz.underlying28 nd_room (zero_int _) rfl M1.out none rfl (KP.out _) (fun q => q) ?_)
    | (at_mapUpdate
       refine wpList_mapUpdate_mp rfl (.tmp 27) (.tmp 28) _ rfl Tryz.underlying72 Tryz.underlying28 nd_room rfl M1.out none rfl (KP.out _) _ rfl ?_
       intro w2 hm2 hg2
       have M2 := Lib.hid hm2
       have K2 := Lib.hid (kept_map hg2)
       clear hm2 hg2))
  have HV := Lib.hid (val_nil w2)
  go_wp2_with fail
  (with_reducible refine HV.out.mono ?_)
  rintro e w3 ⟨rfl, rfl⟩
  have HN := Lib.hid (nnext_nil 0 w3)
  go_wp2_with fail
  (with_reducible refine HN.out.mono ?_)
  rintro e w4 ⟨rfl, rfl⟩
  go_wp2_with fail
  go_loopw [7, 10, 11] (fun v7 v10 v11 wr => v7 = .int .i64 (-1) ∧ v10 = .int .u8 0 ∧ v11 = .pointer none ∧ wr = w4) (fun _ _ _ _ => 0)
  case atStart => exact ⟨rfl, rfl, rfl, rfl⟩
  case round =>
    obtain ⟨rfl, rfl, rfl, rfl⟩ := hrel
    go_wp2_with (at_mapUpdate
                 refine wpList_mapUpdate_mp rfl (.tmp 66) (.tmp 67) _ rfl Tryz.underlying72 Tryz.underlying28 nd_room rfl M2.out none rfl (KP.out _) _ rfl ?_
                 intro w5 hm5 hg5
                 have K5 := Lib.hid (K2.out.trans (kept_map hg5))
                 clear hm5 hg5)
    go_ret
    exact ⟨rfl, K5.out⟩
set_option maxRecDepth 100000 in
/-- sub.Longest of a tree that lies apart, of one owner; of nothing. -/
theorem longest_any {o : Int} {t : Option (Nn × Fo)} {p : Option Addr} {D : Nat → Prop} {w : World} (ht : OTow w o (fun _ => False) t p D) (hall : oall (fun q => q = o) t) (hg : ogd t) (hl : olng t ≤ 1000000) :
    Calls Tryz.prog 16 #[.pointer p] w fun e w' => e = .returned (.int .i64 (olng t)) ∧ Below w.heap.size w w' := by
  have hmm := @run_makeMap Tryz.prog
  cases t with
  | none =>
    obtain rfl : p = none := ht
    have HK := Lib.hid (nkind_nil (w.alloc (.map #[] 0)))
    have hkp : KpOk (w.alloc (.map #[] 0)) none := fun g e => by cases e
    have M1 := Lib.hid (Mp.made w)
    have KP := Lib.hid hkp
    have B1 := Lib.hid (show Below w.heap.size w (w.alloc (.map #[] 0)) from (Below.refl w.heap.size w).alloc (Nat.le_refl _) (.map #[] 0))
    have HL := Lib.hid (nil_any w.heap.size (w.alloc (.map #[] 0)) (Mp.made w))
    clear hg hall hl hkp
    go_enter Tryz.func16, Tryz.ntmps16
    go_wp2_with fail
    (with_reducible refine HL.out.mono ?_)
    rintro e w1 ⟨rfl, k1⟩
    have B2 := Lib.hid (show Below w.heap.size w w1 from B1.out.trans (k1.below (by simp) (fun i e => Nat.le_of_eq e.symm)))
    clear k1 HL
    go_wp2_with fail
    go_ret
    exact ⟨by first | rfl | (congr 2; omega), B2.out⟩
  | some T =>
    obtain ⟨x, k⟩ := T
    obtain ⟨g, rfl, h1⟩ := ht
    have h2 := h1.there
    have HC := longs_all o x k (w.alloc (.map #[] 0)) g w.heap.size (fun i => D i ∧ i < w.heap.size) (fun _ => False) (h2.kept (N := fun i => w.heap.size ≤ i) (Kept.of_below' ((Below.refl _ _).alloc (Nat.le_refl _) _)) (fun i q => q.elim) (fun i q => Nat.not_le.2 q.2)) hall.1 hall.2 hg hl (Mp.made w) (fun i _ q => q) (fun q => Nat.lt_irrefl _ q.2)
    have hp := lng_pos hg
    have e1 : olng (some (x, k)) = lngT x k := rfl
    rw [e1]
    obtain ⟨l, hl2⟩ : ∃ z, lngT x k = z := ⟨_, rfl⟩
    rw [hl2] at HC hp ⊢
    have HC := Lib.hid HC
    have HM := Lib.hid (show max (0 : Int) l = l by omega)
    clear h1 h2 hall hg hl e1 hl2 hp
    go_enter Tryz.func16, Tryz.ntmps16
    go_wp2_with fail
    (with_reducible refine HC.out.mono ?_)
    rintro e w1 ⟨rfl, _, k1⟩
    have B1 := Lib.hid (show Below w.heap.size w w1 from ((Below.refl w.heap.size w).alloc (Nat.le_refl _) (.map #[] 0)).trans (k1.below (by simp) (fun i e => Nat.le_of_eq e.symm)))
    clear k1 HC
    go_wp2_with fail
    go_ret
    exact ⟨ret_int (HM.out), B1.out⟩
end Go.Proofs.YtajpipaooaemdaaGreatDoor
