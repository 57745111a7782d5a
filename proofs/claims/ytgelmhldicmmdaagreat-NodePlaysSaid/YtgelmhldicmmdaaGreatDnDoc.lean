/-
  The document's node, by value: its cells; what Mine, Len, Occupants, Kind, Next, Prev tell.
-/
import Derived.Test.YtgelmhldicmmdaaGreatDocSet
import Derived.Test.YtgelmhldicmmdaaGreatKdKind
import Derived.Test.YtgelmhldicmmdaaGreatBdPure
import Derived.Test.YtgelmhldicmmdaaGreatNdFroz
import Derived.Laws.Tables
import Derived.Laws.ResultCell
import Derived.Deep.RegionHeld3
namespace Go.Proofs.YtgelmhldicmmdaaGreat
open Go.RowKit

/-- A node's 261 cells. -/
def dnL (o : Int) (lf : Bool) (A : Option Addr) (n c : Nat) (hs : Bool) (v : Int) (K : Nat → Int) : List Value :=
  .int .u64 o :: .bool lf :: .slice A n c :: .bool hs :: .int .u64 v :: (List.range 256).map (fun i => .int .i64 (K i))
section
variable {o v : Int} {lf hs : Bool} {A : Option Addr} {n c : Nat} {K : Nat → Int}
theorem dnL_length : (dnL o lf A n c hs v K).length = 261 := by simp [dnL]
theorem dnL_kid {i : Nat} (hi : i < 256) : (dnL o lf A n c hs v K)[5 + i]? = some (.int .i64 (K i)) := by
  rw [show 5 + i = i + 1 + 1 + 1 + 1 + 1 by omega]
  simp only [dnL, List.getElem?_cons_succ, List.getElem?_map, List.getElem?_range hi, Option.map_some]
theorem dnL_one : ∀ x ∈ dnL o lf A n c hs v K, x.oneCell' = true := by
  intro x hx
  simp only [dnL, List.mem_cons, List.mem_map] at hx
  rcases hx with rfl | rfl | rfl | rfl | rfl | ⟨i, _, rfl⟩ <;> rfl
theorem dnL_setK {i : Nat} {x : Int} {K' : Nat → Int} (hK : K' = fun j => if j = i then x else K j) : (dnL o lf A n c hs v K).set (5 + i) (.int .i64 x) = dnL o lf A n c hs v K' := by
  subst hK
  rw [show 5 + i = i + 1 + 1 + 1 + 1 + 1 by omega]
  simp only [dnL, List.set_cons_succ]
  congr 5
  exact map_set_range (by simp) (fun j _ hj => by simp [hj])
end
/-- What no node's cells are laid over. -/
def zeroN : List Value := dnL 0 false none 0 0 false 0 (fun _ => 0)
theorem zeroN_length : zeroN.length = 261 := dnL_length
set_option maxRecDepth 100000 in
theorem dn_size : (Tryz.prog.info? 59).map (·.size) = some 261 := by kernel_rfl
set_option maxRecDepth 100000 in
theorem dn_zero : (Tryz.prog.info? 59).map (·.zero) = some (some (.agg zeroN.toArray)) := by kernel_rfl
/-- A node's cells, whatever they are. -/
structure Dn (L : List Value) : Prop where
  len : L.length = 261
  one : ∀ x ∈ L, x.oneCell' = true
theorem dn_is {o v : Int} {lf hs : Bool} {A : Option Addr} {n c : Nat} {K : Nat → Int} : Dn (dnL o lf A n c hs v K) := ⟨dnL_length, dnL_one⟩
set_option maxRecDepth 100000 in
theorem Dn.sz {L : List Value} (h : Dn L) : (Tryz.prog.info? 59).map (·.size) = some L.length := by rw [h.len]; exact dn_size
set_option maxRecDepth 100000 in
theorem Dn.szA {L : List Value} (h : Dn L) : (Tryz.prog.info? 59).map (·.size) = some L.toArray.size := by rw [List.size_toArray, h.len]; exact dn_size
theorem Dn.all1 {L : List Value} (h : Dn L) : L.toArray.all (·.oneCell') = true := all_oneCell_toArray h.one
theorem dn_over {w : World} {g : Nat} {l L : List Value} (h : Lst w g l) (hl : l.length = 261) (hL : Dn L) : Lst (w.setCells g 0 L.toArray.toList) g L := by
  have := Lst.setCells h 0 L (by rw [hl, hL.len]; exact Nat.le_refl _)
  have e : spl l 0 L = L := by
    unfold spl
    rw [hL.len, List.drop_of_length_le (by omega)]
    simp
  rw [e] at this
  exact this
theorem dn_box (L : List Value) (w : World) : ∃ W, w.alloc (.cells L.toArray 59) = W ∧ Lst W w.heap.size L ∧ Below w.heap.size w W ∧ W.heap.size = w.heap.size + 1 :=
  ⟨_, rfl, Blk.new _ _ _, (Below.refl _ _).alloc (Nat.le_refl _) _, by simp⟩

set_option maxRecDepth 100000 in
theorem rmine_any (L : List Value) (ow o : Int) (h0 : L[0]? = some (.int .u64 ow)) (w : World) : Calls Tryz.prog 19 #[.agg L.toArray, .int .u64 o] w fun e w' => e = .returned (.bool (mineB ow o)) ∧ Below w.heap.size w w' := by
  obtain ⟨W, hW, hl, hb, hs⟩ := dn_box L w
  have c0 : W.cell? ⟨w.heap.size, 0, none⟩ = some (.int .u64 ow) := by rw [Lst.at_ hl]; exact h0
  have HB := Lib.hid hb
  clear hl hb hs h0
  generalize L.toArray = cs at hW ⊢
  by_cases hz : o = 0
  · subst hz
    rw [mine_zero]
    go_enter Tryz.func19, Tryz.ntmps19
    go_wp2_with fail
    try rw [hW]
    go_wp2
    go_ret
    exact ⟨rfl, HB.out⟩
  · go_enter Tryz.func19, Tryz.ntmps19
    go_wp2_with fail
    try rw [hW]
    go_wp2
    go_ret
    exact ⟨rfl, HB.out⟩

/-- Places that are above 0 just where es holds something. -/
def Hk (K : Nat → Int) (es : List Ent) : Prop := ∀ i, i < 256 → (K i = 0 ∧ hasE es i = false) ∨ (0 < K i ∧ K i ≤ 9223372036854775807 ∧ hasE es i = true)
def kq (K : Nat → Int) (e : Option Ent) : Int := match e with | some e => K e.1.toNat | none => 0
section
variable {o v : Int} {lf hs : Bool} {A : Option Addr} {n c : Nat} {K : Nat → Int} {es : List Ent}
set_option maxRecDepth 100000 in
theorem rdlen_any (h : Up es) (hk : Hk K es) (w : World) : Calls Tryz.prog 31 #[.agg (dnL o lf A n c hs v K).toArray] w fun e w' => e = .returned (.int .i64 (es.length : Int)) ∧ Below w.heap.size w w' := by
  obtain ⟨W, hW, hl, hb, hsz⟩ := dn_box (dnL o lf A n c hs v K) w
  have HC := Lib.hid (fun i (hi : i < 256) => show W.cell? ⟨w.heap.size, 5 + i, none⟩ = some (.int .i64 (K i)) by rw [Lst.at_ hl]; exact dnL_kid hi)
  have HB := Lib.hid hb
  have HU := Lib.hid h
  have HK := Lib.hid hk
  have h16 : es.length ≤ 256 := by rw [← pos_all es]; exact pos256 h
  clear hl hb hsz h hk
  generalize (dnL o lf A n c hs v K).toArray = cs at hW ⊢
  go_enter Tryz.func31, Tryz.ntmps31
  go_wp2_with fail
  try rw [hW]
  clear hW
  go_loopw [3, 4] (fun s3 s4 wr => ∃ k : Nat, k ≤ 256 ∧ s4 = .int .i64 k ∧ s3 = .int .i64 (pos es k : Nat) ∧ Still W wr) (fun _ s4 _ => 256 - (intOf s4).toNat)
  case atStart => exact ⟨0, by omega, rfl, by rw [pos_zero]; rfl, Still.refl _⟩
  case round =>
    obtain ⟨k, hk, rfl, rfl, q, rfl⟩ := hrel
    by_cases h1 : k < 256
    · have hc := HC.out k h1
      have hp : pos es k ≤ 256 := Nat.le_trans (pos_le _ _) h16
      rcases HK.out k h1 with ⟨hz, hh⟩ | ⟨hz, _, hh⟩
      · rw [hz] at hc
        have E := Lib.hid (pos_not HU.out hh)
        clear hh hz
        go_wp2
        exact ⟨⟨k + 1, by omega, by go_num, by rw [E.out], ⟨_, rfl⟩⟩, by simp [intOf]; omega⟩
      · generalize K k = kk at hc hz
        have E := Lib.hid (pos_yes HU.out hh)
        clear hh
        generalize hpp : pos es k = p at hp E
        clear hpp
        have ew : IntKind.i64.wrap ((p : Int) + 1) = (p : Int) + 1 := by rw [IntKind.wrap_i64]; omega
        go_wp2
        exact ⟨⟨k + 1, by omega, by go_num, by rw [E.out]; go_num, ⟨_, rfl⟩⟩, by simp [intOf]; omega⟩
    · obtain rfl : k = 256 := by omega
      have E := Lib.hid (pos_all es)
      go_wp2
      go_ret
      exact ⟨by rw [E.out]; rfl, below_drewN HB.out q⟩

set_option maxRecDepth 100000 in
theorem rdnext_any (h : Up es) (hk : Hk K es) (a : Int) (w : World) : Calls Tryz.prog 24 #[.agg (dnL o lf A n c hs v K).toArray, .int .i64 a] w fun e w' => e = .returned (.tuple #[.int .u8 (eb (nextE es a)), .int .i64 (kq K (nextE es a))]) ∧ Below w.heap.size w w' := by
  obtain ⟨W, hW, hl, hb, hsz⟩ := dn_box (dnL o lf A n c hs v K) w
  have HC := Lib.hid (fun i (hi : i < 256) => show W.cell? ⟨w.heap.size, 5 + i, none⟩ = some (.int .i64 (K i)) by rw [Lst.at_ hl]; exact dnL_kid hi)
  have HB := Lib.hid hb
  have HU := Lib.hid h
  have HK := Lib.hid hk
  have H0 := Lib.hid (show ∃ c : Nat, max a 0 = (c : Int) ∧ ((256 ≤ c ∧ nextE es a = none) ∨ (c < 256 ∧ nx es c = nextE es a)) by
    refine ⟨a.toNat, by omega, ?_⟩
    rw [next_nx]
    by_cases q : 255 < a
    · left; exact ⟨by omega, by rw [if_pos q]⟩
    · right; exact ⟨by omega, by rw [if_neg q]⟩)
  clear hl hb hsz h hk
  generalize (dnL o lf A n c hs v K).toArray = cs at hW ⊢
  generalize nextE es a = ne at H0 ⊢
  by_cases hz : a ≤ 0
  all_goals
    go_enter Tryz.func24, Tryz.ntmps24
    go_wp2_with fail
  all_goals
    try rw [hW]
    clear hW
    go_loopw [6] (fun s7 wr => ∃ c : Nat, s7 = .int .i64 c ∧ Hid ((256 ≤ c ∧ ne = none) ∨ (c < 256 ∧ nx es c = ne)) ∧ Still W wr) (fun s7 _ => 256 - (intOf s7).toNat)
    case atStart =>
      obtain ⟨c, hc, hn⟩ := H0.out
      exact ⟨c, by congr 1; omega, hn, Still.refl _⟩
    case round =>
      obtain ⟨c, rfl, HN, q, rfl⟩ := hrel
      by_cases h1 : c < 256
      · have hc1 := HC.out c h1
        have hn : nx es c = ne := by rcases HN.out with q | q; omega; exact q.2
        rcases HK.out c h1 with ⟨hz, hh⟩ | ⟨hz, _, hh⟩
        · rw [hz] at hc1
          have E := Lib.hid (nx_not HU.out hh)
          clear hh hz
          go_wp2
          refine ⟨⟨c + 1, by go_num, ?_, ⟨_, rfl⟩⟩, by simp [intOf]; omega⟩
          by_cases q2 : c + 1 = 256
          · refine Lib.hid (.inl ⟨by omega, ?_⟩)
            rw [← hn, ← E.out, q2]; exact nx_all es
          · exact Lib.hid (.inr ⟨by omega, by rw [E.out, hn]⟩)
        · have E := Lib.hid (nx_yes hh)
          rw [hn] at E
          obtain ⟨kk, hkk⟩ : ∃ kk, K c = kk := ⟨_, rfl⟩
          rw [hkk] at hc1 hz
          have HKK := Lib.hid hkk
          clear hh hn hkk
          have ew : IntKind.u8.wrap (c : Int) = (c : Int) := by rw [IntKind.wrap_u8]; omega
          go_wp2_with fail
          go_quiet (fail)
          go_wp2
          go_ret2
          obtain ⟨e, he, h1, h2⟩ := E.out
          refine ⟨?_, below_drewN (below_drewN HB.out _) _⟩
          subst he
          show _ = Ending.returned (.tuple #[.int .u8 ((e.1.toNat : Nat) : Int), .int .i64 (K e.1.toNat)])
          rw [h1, HKK.out]
          rfl
      · have hn : ne = none := by rcases HN.out with q | q; exact q.2; omega
        subst hn
        go_wp2
        go_ret2
        exact ⟨rfl, below_drewN HB.out _⟩

set_option maxRecDepth 100000 in
theorem rdprev_any (h : Up es) (hk : Hk K es) (a : Int) (w : World) : Calls Tryz.prog 25 #[.agg (dnL o lf A n c hs v K).toArray, .int .i64 a] w fun e w' => e = .returned (.tuple #[.int .u8 (eb (prevE es a)), .int .i64 (kq K (prevE es a))]) ∧ Below w.heap.size w w' := by
  obtain ⟨W, hW, hl, hb, hsz⟩ := dn_box (dnL o lf A n c hs v K) w
  have HC := Lib.hid (fun i (hi : i < 256) => show W.cell? ⟨w.heap.size, 5 + i, none⟩ = some (.int .i64 (K i)) by rw [Lst.at_ hl]; exact dnL_kid hi)
  have HB := Lib.hid hb
  have HU := Lib.hid h
  have HK := Lib.hid hk
  have H0 := Lib.hid (show (min a 255 < 0 ∧ prevE es a = none) ∨ (∃ c : Nat, min a 255 = (c : Int) ∧ c < 256 ∧ pv es (c + 1) = prevE es a) by
    rw [prev_pv h]
    by_cases q : a < 0
    · left; exact ⟨by omega, by rw [if_pos q]⟩
    · right; exact ⟨(min a 255).toNat, by omega, by omega, by rw [if_neg q]⟩)
  clear hl hb hsz h hk
  generalize (dnL o lf A n c hs v K).toArray = cs at hW ⊢
  generalize prevE es a = ne at H0 ⊢
  by_cases hz : a ≤ 255
  all_goals
    go_enter Tryz.func25, Tryz.ntmps25
    go_wp2_with fail
  all_goals
    try rw [hW]
    clear hW
    go_loopw [6] (fun s7 wr => ∃ z : Int, s7 = .int .i64 z ∧ Hid ((z < 0 ∧ ne = none) ∨ (∃ c : Nat, z = (c : Int) ∧ c < 256 ∧ pv es (c + 1) = ne)) ∧ Still W wr) (fun s7 _ => (intOf s7 + 1).toNat)
    case atStart =>
      rcases H0.out with ⟨h1, h2⟩ | ⟨c, h1, h2, h3⟩
      · exact ⟨_, rfl, Lib.hid (.inl ⟨by omega, h2⟩), Still.refl _⟩
      · exact ⟨_, rfl, Lib.hid (.inr ⟨c, by omega, h2, h3⟩), Still.refl _⟩
    case round =>
      obtain ⟨z, rfl, HN, q, rfl⟩ := hrel
      rcases HN.out with ⟨hz0, hn⟩ | ⟨c, rfl, h1, hn⟩
      · subst hn
        go_wp2
        go_ret2
        exact ⟨rfl, below_drewN HB.out _⟩
      · have hc1 := HC.out c h1
        clear HN
        rcases HK.out c h1 with ⟨hz, hh⟩ | ⟨hz, _, hh⟩
        · rw [hz] at hc1
          have E := Lib.hid (pv_not HU.out hh)
          have HNn := Lib.hid hn
          have ew : IntKind.i64.wrap ((c : Int) - 1) = (c : Int) - 1 := by rw [IntKind.wrap_i64]; omega
          clear hh hn hz
          go_wp2
          refine ⟨⟨(c : Int) - 1, rfl, ?_, ⟨_, rfl⟩⟩, by simp [intOf]⟩
          by_cases q2 : c = 0
          · subst q2
            refine Lib.hid (.inl ⟨by omega, ?_⟩)
            rw [← HNn.out, E.out]; exact pv_zero es
          · refine Lib.hid (.inr ⟨c - 1, by omega, by omega, ?_⟩)
            rw [← HNn.out, E.out, show c - 1 + 1 = c by omega]
        · have E := Lib.hid (pv_yes HU.out hh)
          rw [hn] at E
          obtain ⟨kk, hkk⟩ : ∃ kk, K c = kk := ⟨_, rfl⟩
          rw [hkk] at hc1 hz
          have HKK := Lib.hid hkk
          clear hh hn hkk
          have ew : IntKind.u8.wrap (c : Int) = (c : Int) := by rw [IntKind.wrap_u8]; omega
          go_wp2_with fail
          go_quiet (fail)
          go_wp2
          go_ret2
          obtain ⟨e, he, h1, h2⟩ := E.out
          refine ⟨?_, below_drewN (below_drewN HB.out _) _⟩
          subst he
          show _ = Ending.returned (.tuple #[.int .u8 ((e.1.toNat : Nat) : Int), .int .i64 (K e.1.toNat)])
          rw [h1, HKK.out]
          rfl

set_option maxRecDepth 100000 in
theorem rdocc_any (h : Up es) (hk : Hk K es) (w : World) : Calls Tryz.prog 32 #[.agg (dnL o lf A n c hs v K).toArray] w fun e w' => e = .returned (.int .i64 (if hs then es.length + 1 else es.length)) ∧ Below w.heap.size w w' := by
  obtain ⟨W, hW, hl, hb, hsz⟩ := dn_box (dnL o lf A n c hs v K) w
  have c3 : W.cell? ⟨w.heap.size, 3, none⟩ = some (.bool hs) := by rw [Lst.at_ hl]; rfl
  have HR := Lib.hid (Lst.all hl)
  have HL := Lib.hid (dn_is (o := o) (lf := lf) (A := A) (n := n) (c := c) (hs := hs) (v := v) (K := K)).sz
  have CL := Lib.hid (rdlen_any (o := o) (lf := lf) (A := A) (n := n) (c := c) (hs := hs) (v := v) h hk W)
  have HB := Lib.hid hb
  have h16 : es.length ≤ 256 := by rw [← pos_all es]; exact pos256 h
  have ew : IntKind.i64.wrap ((es.length : Int) + 1) = (es.length : Int) + 1 := by rw [IntKind.wrap_i64]; omega
  clear hl hb hsz h hk
  generalize dnL o lf A n c hs v K = L at hW HR HL CL ⊢
  generalize es.length = ln at CL ew ⊢
  cases hs
  all_goals
    go_enter Tryz.func32, Tryz.ntmps32
    go_upto_region 1 with fail
    try rw [hW]
    clear hW
    go_wp2_with (refine wpList_load_mid rfl 59 (.tmp 1) rfl w.heap.size 0 rfl L _ HR.out Tryz.underlying59 rfl HL.out ?_)
    (with_reducible refine CL.out.mono ?_)
    rintro e w2 ⟨rfl, h2⟩
    have HE := Lib.hid (HB.out.trans (h2.mono HB.out.size))
    clear h2
    go_wp2
    go_ret
    exact ⟨rfl, HE.out⟩
set_option maxRecDepth 100000 in
theorem rdkind_any (h : Up es) (hk : Hk K es) (w : World) : Calls Tryz.prog 33 #[.agg (dnL o lf A n c hs v K).toArray] w fun e w' => e = .returned (.int .i64 (if lf then 1 else (kindN es.length : Int))) ∧ Below w.heap.size w w' := by
  obtain ⟨W, hW, hl, hb, hsz⟩ := dn_box (dnL o lf A n c hs v K) w
  have c3 : W.cell? ⟨w.heap.size, 1, none⟩ = some (.bool lf) := by rw [Lst.at_ hl]; rfl
  have HR := Lib.hid (Lst.all hl)
  have HL := Lib.hid (dn_is (o := o) (lf := lf) (A := A) (n := n) (c := c) (hs := hs) (v := v) (K := K)).sz
  have CL := Lib.hid (rdlen_any (o := o) (lf := lf) (A := A) (n := n) (c := c) (hs := hs) (v := v) h hk W)
  have HB := Lib.hid hb
  have h16 : es.length ≤ 256 := by rw [← pos_all es]; exact pos256 h
  have CZ := Lib.hid (fun V => (show Calls Tryz.prog 59 #[.int .i64 (es.length : Int)] V fun e w' => e = .returned (.int .i64 (kindN es.length : Int)) ∧ w' = V from by rw [← kindZ_nat h16]; exact rkindof_any V _))
  clear hl hb hsz h hk h16
  generalize dnL o lf A n c hs v K = L at hW HR HL CL ⊢
  generalize kindN es.length = kn at CZ ⊢
  generalize es.length = ln at CL CZ
  cases lf
  · go_enter Tryz.func33, Tryz.ntmps33
    go_upto_region 1 with fail
    try rw [hW]
    clear hW
    go_wp2_with (refine wpList_load_mid rfl 59 (.tmp 1) rfl w.heap.size 0 rfl L _ HR.out Tryz.underlying59 rfl HL.out ?_)
    (with_reducible refine CL.out.mono ?_)
    rintro e w2 ⟨rfl, h2⟩
    have HE := Lib.hid (HB.out.trans (h2.mono HB.out.size))
    clear h2
    go_wp2_with fail
    (with_reducible refine (CZ.out _).mono ?_)
    rintro e w3 ⟨rfl, rfl⟩
    go_wp2
    go_ret
    exact ⟨rfl, HE.out⟩
  · go_enter Tryz.func33, Tryz.ntmps33
    go_upto_region 1 with fail
    try rw [hW]
    clear hW
    go_wp2
    go_ret
    exact ⟨rfl, HB.out⟩
end
end Go.Proofs.YtgelmhldicmmdaaGreat
