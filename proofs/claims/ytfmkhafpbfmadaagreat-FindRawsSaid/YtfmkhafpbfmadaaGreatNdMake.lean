/-
  What makes a node: Leaf, Inner, Copy, Own.
-/
import Derived.Test.YtfmkhafpbfmadaaGreatNdWrite
namespace Go.Proofs.YtfmkhafpbfmadaaGreat
open Go.RowKit

/-- What is handed back where a node is made. -/
def MkPost (w : World) (m : Option Nat) (rest : List Value) (cnt : Int) (x : Nd) (A0 : Option Addr) (l0 : List UInt8) (e : Ending) (w' : World) : Prop :=
  ∃ g, e = .returned (.pointer (some ⟨g, 0, none⟩)) ∧ NwPost w w' m g x A0 l0 ∧ ∀ q, m = some q → Lst w' q (.int .i64 (cnt + 1) :: rest)
set_option maxRecDepth 100000 in
theorem node_size : (Tryz.prog.info? 77).map (·.size) = some 6 := by kernel_rfl

section
variable {w w' : World} {g : Nat} {x : Nd} {b : Be} {A : Option Addr} {rest : List Value}
/-- A node's block that is new, its kids and its part that are there already. -/
theorem NwPost.box {w1 w2 : World} {m : Option Nat} {c : Nat} {ty : TypeId} {A0 : Option Addr} {l0 : List UInt8} (hm : Kept (fun i => m = some i) w w1) (hb : Below w1.heap.size w1 w2)
    (hp : Byt w2 w2.heap.size A x.part.length x.part) (hs : x.part.length ≤ 140737488355328) (hk : b.Is w2 x.leaf x.es) (hn : ∀ i, b.D i → w.heap.size ≤ i) (hA : ∀ i, Pb A x.part i → (Pb A0 l0 i ∨ w.heap.size ≤ i) ∧ ¬ b.D i) :
    NwPost w (w2.alloc (.cells (ndC x A x.part.length c b) ty)) m w2.heap.size x A0 l0 := by
  have b2 : Below w2.heap.size w2 (w2.alloc (.cells (ndC x A x.part.length c b) ty)) := (Below.refl _ _).alloc (Nat.le_refl _) _
  have h1 := hm.size
  have h2 := hb.size
  refine ⟨b, A, ⟨⟨c, Blk.new _ _ _⟩, (hp.below b2).more b2.size, hs, hk.kept (D := fun _ => False) (Kept.of_below b2) (fun _ _ q => q), fun q => ?_, fun i hi => ⟨fun e => ?_, (hA i hi).2⟩⟩, fun i hi => ?_, fun i hi => (hA i hi).1, ?_⟩
  · have := hk.lt q; omega
  · have := hp.ltPb hi; omega
  · rcases hi with rfl | hi
    · omega
    · exact hn i hi
  · exact (hm.trans' (D' := fun _ => False) (Kept.of_below hb) (fun _ _ q => q)).trans' (D' := fun _ => False) (Kept.of_below b2) (fun _ _ q => q)

set_option maxRecDepth 100000 in
theorem nleaf_any (m : Option Nat) (cnt o v : Int) (n c B : Nat) (l : List UInt8) (w : World) (hm : Mt w m rest cnt) (ha : Byt w B A n l) (hB : B ≤ w.heap.size) (hn : n ≤ 140737488355328) (hd : ∀ i, Pb A l i → m ≠ some i) :
    Calls Tryz.prog 23 #[mtr m, .int .u64 o, .slice A n c, .int .u64 v] w (MkPost w m rest cnt ⟨true, o, l, v, true, []⟩ none []) := by
  obtain rfl : l.length = n := ha.1
  have H1 := Lib.hid (made_one m cnt w hm)
  have HA := Lib.hid ha
  generalize hq : mtr m = q at H1 ⊢
  clear ha hm hq
  go_enter Tryz.func23, Tryz.ntmps23
  go_wp2_with fail
  (with_reducible refine H1.out.mono ?_)
  rintro e w1 ⟨rfl, hc, hk⟩
  have hA1 : Byt w1 w1.heap.size A l.length l := ((HA.out.more hB).keepPb fun p hp => hk.cell (by have := HA.out.ltPb hp; omega) (hd _ hp)).more hk.size
  have H2 := Lib.hid (bclone_any A l.length c w1.heap.size l w1 hA1 (Nat.le_refl _) hn)
  have HC := Lib.hid hc
  have HK := Lib.hid hk
  clear hc hk hA1
  go_wp2_with fail
  (with_reducible refine H2.out.mono ?_)
  rintro e w2 ⟨A2, c2, rfl, y1, y2, k⟩
  have HE := Lib.hid (show MkPost w m rest cnt ⟨true, o, l, v, true, []⟩ none [] (.returned (.pointer (some ⟨w2.heap.size, 0, none⟩))) (w2.alloc (.cells #[.int .i64 1, .int .u64 o, .slice A2 l.length c2, .int .u64 v, .bool true, .pointer none] 77)) from by
    have s1 := HK.out.size
    refine ⟨_, rfl, NwPost.box (x := ⟨true, o, l, v, true, []⟩) (b := .non) HK.out k y1 hn ⟨rfl, rfl⟩ (fun i q => q.elim) (fun i hi => ⟨.inr (by have := y2 i hi; omega), fun q => q⟩), fun q hq => ?_⟩
    exact Blk.alloc (Blk.below (HC.out q hq) k (Blk.lt (HC.out q hq))) _)
  clear y1 y2 k
  go_wp2
  go_ret
  exact HE.out
set_option maxRecDepth 100000 in
theorem ninner_any (m : Option Nat) (cnt o : Int) (n c B : Nat) (l : List UInt8) (w : World) (hm : Mt w m rest cnt) (ha : Byt w B A n l) (hB : B ≤ w.heap.size) (hn : n ≤ 140737488355328) (hd : ∀ i, Pb A l i → m ≠ some i) :
    Calls Tryz.prog 24 #[mtr m, .int .u64 o, .slice A n c] w (MkPost w m rest cnt ⟨false, o, l, 0, false, []⟩ none []) := by
  obtain rfl : l.length = n := ha.1
  have H1 := Lib.hid (made_one m cnt w hm)
  have HA := Lib.hid ha
  generalize hq : mtr m = q at H1 ⊢
  clear ha hm hq
  go_enter Tryz.func24, Tryz.ntmps24
  go_wp2_with fail
  (with_reducible refine H1.out.mono ?_)
  rintro e w1 ⟨rfl, hc, hk⟩
  have hA1 : Byt w1 w1.heap.size A l.length l := ((HA.out.more hB).keepPb fun p hp => hk.cell (by have := HA.out.ltPb hp; omega) (hd _ hp)).more hk.size
  have H2 := Lib.hid (bclone_any A l.length c w1.heap.size l w1 hA1 (Nat.le_refl _) hn)
  have HC := Lib.hid hc
  have HK := Lib.hid hk
  clear hc hk hA1
  go_wp2_with fail
  (with_reducible refine H2.out.mono ?_)
  rintro e w2 ⟨A2, c2, rfl, y1, y2, k⟩
  have H3 := Lib.hid (knew_any w2)
  have Y1 := Lib.hid y1
  have Y2 := Lib.hid y2
  have K := Lib.hid k
  clear y1 y2 k
  go_wp2_with fail
  (with_reducible refine H3.out.mono ?_)
  rintro e w3 ⟨oh, rfl, z1, z2, z3⟩
  have HE := Lib.hid (show MkPost w m rest cnt ⟨false, o, l, 0, false, []⟩ none [] (.returned (.pointer (some ⟨w3.heap.size, 0, none⟩))) (w3.alloc (.cells #[.int .i64 2, .int .u64 o, .slice A2 l.length c2, .int .u64 0, .bool false, .pointer (some ⟨w2.heap.size, 0, none⟩)] 77)) from by
    have s1 := HK.out.size
    have s2 := K.out.size
    have hD : ∀ i, (Be.at_ w2.heap.size oh).D i → w2.heap.size ≤ i := fun i hi => by
      rcases hi with rfl | hi
      · omega
      · have := z2 i hi; omega
    refine ⟨_, rfl, NwPost.box (x := ⟨false, o, l, 0, false, []⟩) (b := .at_ w2.heap.size oh) HK.out (K.out.trans (z3.mono s2)) ((Y1.out.below z3).more z3.size) hn ⟨rfl, z1⟩ (fun i q => by have := hD i q; omega) (fun i hi => ⟨.inr (by have := Y2.out i hi; omega), fun q => ?_⟩), fun q hq => ?_⟩
    · have := hD i q; have := Y1.out.ltPb hi; omega
    · have h1 := Blk.below (HC.out q hq) K.out (Blk.lt (HC.out q hq))
      exact Blk.alloc (Blk.below h1 z3 (Blk.lt h1)) _)
  clear z1 z2 z3
  go_wp2
  go_ret
  exact HE.out

set_option maxRecDepth 100000 in
/-- Kids of one's own with the same. -/
theorem Be.Is.copy_ {leaf : Bool} {es : List Ent} (h : b.Is w leaf es) : Calls Tryz.prog 84 #[b.ptr] w fun e w' =>
    ∃ b', e = .returned (Be.ptr b') ∧ Be.Is w' leaf es b' ∧ (∀ i, Be.D b' i → w.heap.size ≤ i) ∧ Below w.heap.size w w' := by
  cases b with
  | non =>
    refine (kcopy_nil w).mono ?_
    rintro e w' ⟨rfl, rfl⟩
    exact ⟨.non, rfl, h, fun i q => q.elim, Below.refl _ _⟩
  | at_ k o =>
    refine (kcopy_any h.2).mono ?_
    rintro e w' ⟨g', o', rfl, k1, k2, k3⟩
    exact ⟨.at_ g' o', rfl, ⟨h.1, k1⟩, k2, k3⟩

set_option maxRecDepth 100000 in
theorem ncopy_nil (v : Value) (o : Int) (w : World) : Calls Tryz.prog 83 #[.pointer none, v, .int .u64 o] w fun e w' => e = .returned (.pointer none) ∧ w' = w := by
  have H1 := Lib.hid (what_nil w)
  go_enter Tryz.func83, Tryz.ntmps83
  go_wp2_with fail
  (with_reducible refine H1.out.mono ?_)
  rintro e w1 ⟨rfl, rfl⟩
  go_wp2
  go_ret
  exact ⟨rfl, rfl⟩
set_option maxRecDepth 100000 in
set_option maxHeartbeats 400000 in
theorem ncopy_any (h : Nod w g x b A) (m : Option Nat) (cnt o : Int) (hm : Mt w m rest cnt) (hd : ∀ i, b.all g i ∨ Pb A x.part i → m ≠ some i) :
    Calls Tryz.prog 83 #[.pointer (some ⟨g, 0, none⟩), mtr m, .int .u64 o] w (MkPost w m rest cnt { x with ow := o } A x.part) := by
  have H0 := Lib.hid (what_any h)
  obtain ⟨i, hi, hi0⟩ := isN_pos x.leaf
  rw [hi] at H0
  have H1 := Lib.hid (made_one m cnt w hm)
  have HN := Lib.hid h
  generalize hq : mtr m = q at H1 ⊢
  clear h hm hq
  go_enter Tryz.func83, Tryz.ntmps83
  go_wp2_with fail
  (with_reducible refine H0.out.mono ?_)
  rintro e w1 ⟨rfl, rfl⟩
  go_wp2_with fail
  (with_reducible refine H1.out.mono ?_)
  rintro e w2 ⟨rfl, hc, hk⟩
  have hN := HN.out.kept hk (fun i hi => fun e => hd i hi e)
  have HC := Lib.hid hc
  have HK := Lib.hid hk
  obtain ⟨c, hb⟩ := hN.blk
  obtain ⟨L, hL⟩ : ∃ L : List Value, (ndC x A x.part.length c b).toList = L := ⟨_, rfl⟩
  have hLa : (ndC x A x.part.length c b) = L.toArray := by rw [← hL]
  have HR := Lib.hid (show w2.rangeAt g 0 L from Lst.all (show Lst w2 g L by rw [hLa] at hb; exact hb))
  have H6 := Lib.hid (show (Tryz.prog.info? 77).map (·.size) = some L.length by rw [← hL]; exact node_size)
  have H6' := Lib.hid (show (Tryz.prog.info? 77).map (·.size) = some L.toArray.size by rw [← hL]; exact node_size)
  have ONE := Lib.hid (show L.toArray.all (·.oneCell') = true by rw [← hL]; simp [Value.oneCell'])
  have hZ := Blk.new w2 77 #[.int .i64 0, .int .u64 0, .slice none 0 0, .int .u64 0, .bool false, .pointer none]
  have HT := Lib.hid (show (w2.alloc (.cells #[.int .i64 0, .int .u64 0, .slice none 0 0, .int .u64 0, .bool false, .pointer none] 77)).there w2.heap.size 0 L.toArray.size from Lst.there (l := [.int .i64 0, .int .u64 0, .slice none 0 0, .int .u64 0, .bool false, .pointer none]) hZ (by rw [← hL]; simp))
  obtain ⟨V, hV⟩ : ∃ V, V = (w2.alloc (.cells #[.int .i64 0, .int .u64 0, .slice none 0 0, .int .u64 0, .bool false, .pointer none] 77)).setCells w2.heap.size 0 L.toArray.toList := ⟨_, rfl⟩
  have blV : Blk V w2.heap.size (ndC x A x.part.length c b) := by
    subst hV
    have := Lst.setCells (l := [.int .i64 0, .int .u64 0, .slice none 0 0, .int .u64 0, .bool false, .pointer none]) hZ 0 L (by rw [← hL]; simp)
    rw [hLa]
    have e : spl [.int .i64 0, .int .u64 0, .slice none 0 0, .int .u64 0, .bool false, .pointer none] 0 L = L := by
      unfold spl
      rw [← hL]
      simp
    rw [e] at this
    exact this
  have kV : Kept (· = w2.heap.size) w2 V := by subst hV; exact (Kept.of_below ((Below.refl _ _).alloc (Nat.le_refl _) _)).trans (Kept.setCells _ _ _ _ _ rfl)
  have sV : V.heap.size = w2.heap.size + 1 := by subst hV; rw [size_setCells, World.size_alloc]
  obtain ⟨U, hU⟩ : ∃ U, U = V.setCell ⟨w2.heap.size, 1, none⟩ (.int .u64 o) := ⟨_, rfl⟩
  have blU : Blk U w2.heap.size (ndC { x with ow := o } A x.part.length c b) := by subst hU; simpa [ndC] using blV.set_ 1 (.int .u64 o)
  have kU : Kept (· = w2.heap.size) w2 U := by subst hU; exact kV.trans (Kept.set_ _ _ _ rfl)
  have sU : U.heap.size = w2.heap.size + 1 := by rw [hU]; simp [sV]
  have v1 : V.cell? ⟨w2.heap.size, 1, none⟩ = some (.int .u64 x.ow) := blV.cell 1
  have v2 : V.frozen? ⟨w2.heap.size, 1, none⟩ = false := blV.fz 1
  have belU : Below w2.heap.size w2 U := kU.below (Nat.le_refl _) (fun i e => by omega)
  have nU := hN.below belU
  have v5 : V.cell? ⟨g, 5, none⟩ = some b.ptr := (hN.below (kV.below (Nat.le_refl _) (fun i e => by omega))).kid_
  have hgl : ¬ w2.heap.size = g := by have := hN.lt0; omega
  have h5 := Be.Is.copy_ nU.kids
  rw [hU] at h5
  have H5 := Lib.hid h5
  have HE := Lib.hid (fun (b' : Be) (w3 : World) (k1 : Be.Is w3 x.leaf x.es b') (k2 : ∀ i, Be.D b' i → U.heap.size ≤ i) (k3 : Below U.heap.size U w3) => show w3.cell? ⟨w2.heap.size, 5, none⟩ = some b.ptr ∧ w3.frozen? ⟨w2.heap.size, 5, none⟩ = false ∧
      MkPost w1 m rest cnt { x with ow := o } A x.part (.returned (.pointer (some ⟨w2.heap.size, 0, none⟩))) (w3.setCell ⟨w2.heap.size, 5, none⟩ b'.ptr) by
    have b3 := blU.below k3 (by omega)
    have s0 := HK.out.size
    have s3 := k3.size
    have ks : Kept (· = w2.heap.size) w3 (w3.setCell ⟨w2.heap.size, 5, none⟩ b'.ptr) := Kept.set_ _ _ _ rfl
    have n3 := nU.below k3
    have n0 := HN.out
    have lt0 := n0.lt0
    refine ⟨b3.cell 5, b3.fz 5, _, rfl, ⟨b', A, ⟨⟨c, ?_⟩, ?_, n3.short, k1.kept ks (fun i hi e => by have := k2 i hi; omega), fun q => ?_, fun i hi => ⟨fun e => ?_, fun q => ?_⟩⟩, fun i hi => ?_, fun i hi => .inl hi, ?_⟩, fun q hq => ?_⟩
    · have := b3.set_ 5 b'.ptr
      simpa [ndC] using this
    · exact (n3.byt.keepPb fun p hp => ks.cell (n3.ltA hp) (fun e => by have := n0.ltA hp; omega)).more ks.size
    · have := k2 _ q; omega
    · have := n0.ltA hi; omega
    · have := k2 _ q; have := n0.ltA hi; omega
    · rcases hi with rfl | hi
      · omega
      · have := k2 _ hi; omega
    · exact (HK.out.trans' kU (fun i hi e => by omega)).trans' (D' := fun i => i = w2.heap.size) ((Kept.of_below k3).trans ks) (fun i hi e => by omega)
    · have q0 := Blk.lt (HC.out q hq)
      have q1 : Lst w3 q (.int .i64 (cnt + 1) :: rest) := Blk.below (Blk.below (HC.out q hq) belU q0) k3 (by omega)
      exact ks.blk q1 (fun e => by omega))
  have HV := Lib.hid hV
  have HU := Lib.hid hU
  clear hc hk hb hN hLa hL hZ blV kV sV blU kU sU belU nU hV h5 hU HK HC HN hd
  generalize b.th = kp at v5 H5 HE
  go_wp2_with (first
    | (refine wpList_load_mid rfl 77 (.tmp 14) rfl g 0 rfl L _ HR.out Tryz.underlying77 rfl H6.out ?_)
    | (refine wpList_store_mid rfl 77 (.tmp 7) (.tmp 15) rfl w2.heap.size 0 L.toArray rfl rfl HT.out H6'.out ONE.out ?_; rw [← HV.out]))
  (with_reducible refine H5.out.mono ?_)
  rintro e w3 ⟨b', rfl, k1, k2, k3⟩
  rw [← HU.out] at k2 k3
  obtain ⟨c1, c2, c3⟩ := HE.out b' w3 k1 k2 k3
  have HF := Lib.hid c3
  clear c3 k1 k2 k3
  generalize b'.th = kq at HF ⊢
  go_wp2
  go_ret
  exact HF.out
set_option maxRecDepth 100000 in
theorem nown_nil (v : Value) (o : Int) (w : World) : Calls Tryz.prog 70 #[.pointer none, v, .int .u64 o] w fun e w' => e = .returned (.pointer none) ∧ w' = w := by
  have H1 := Lib.hid (belongs_nil o w)
  have H2 := Lib.hid (ncopy_nil v o w)
  go_enter Tryz.func70, Tryz.ntmps70
  go_wp2_with fail
  (with_reducible refine H1.out.mono ?_)
  rintro e w1 ⟨rfl, rfl⟩
  go_wp2_with fail
  (with_reducible refine H2.out.mono ?_)
  rintro e w1 ⟨rfl, rfl⟩
  go_wp2
  go_ret
  exact ⟨rfl, rfl⟩
set_option maxRecDepth 100000 in
/-- Own, where one may write to it; where not. -/
theorem nown_yes (h : Nod w g x b A) (v : Value) (o : Int) (hm : mineB x.ow o = true) : Calls Tryz.prog 70 #[.pointer (some ⟨g, 0, none⟩), v, .int .u64 o] w fun e w' => e = .returned (.pointer (some ⟨g, 0, none⟩)) ∧ w' = w := by
  have H1 := Lib.hid (belongs_any h o)
  rw [hm] at H1
  clear h hm
  go_enter Tryz.func70, Tryz.ntmps70
  go_wp2_with fail
  (with_reducible refine H1.out.mono ?_)
  rintro e w1 ⟨rfl, rfl⟩
  go_wp2
  go_ret
  exact ⟨rfl, rfl⟩
set_option maxRecDepth 100000 in
theorem nown_no (h : Nod w g x b A) (m : Option Nat) (cnt o : Int) (hm : mineB x.ow o = false) (hc : Mt w m rest cnt) (hd : ∀ i, b.all g i ∨ Pb A x.part i → m ≠ some i) :
    Calls Tryz.prog 70 #[.pointer (some ⟨g, 0, none⟩), mtr m, .int .u64 o] w (MkPost w m rest cnt { x with ow := o } A x.part) := by
  have H1 := Lib.hid (belongs_any h o)
  have H2 := Lib.hid (ncopy_any h m cnt o hc hd)
  rw [hm] at H1
  clear h hm hc hd
  generalize { x with ow := o } = x2 at H2 ⊢
  generalize mtr m = q at H2 ⊢
  go_enter Tryz.func70, Tryz.ntmps70
  go_wp2_with fail
  (with_reducible refine H1.out.mono ?_)
  rintro e w1 ⟨rfl, rfl⟩
  go_wp2_with fail
  (with_reducible refine H2.out.mono ?_)
  rintro e w2 ⟨g2, rfl, k1, k2⟩
  have HE := Lib.hid (show MkPost w1 m rest cnt x2 A x.part (.returned (.pointer (some ⟨g2, 0, none⟩))) w2 from ⟨g2, rfl, k1, k2⟩)
  clear k1 k2
  go_wp2
  go_ret
  exact HE.out
end
end Go.Proofs.YtfmkhafpbfmadaaGreat
