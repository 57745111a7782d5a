/-
  How many nodes the document goes into.
-/
import Derived.Test.YtfmkhafpbfmadaaGreatFnLaw
import Derived.Test.YtfmkhafpbfmadaaGreatDtTop
import Derived.Deep.RegionHeld3
namespace Go.Proofs.YtfmkhafpbfmadaaGreat
open Go.RowKit

theorem Fo.goes_at : ∀ (f : Fo) (c : UInt8) (l : List UInt8) (a b : Nat), (f.goes c l a).length = (f.goes c l b).length
  | .nil, _, _, _, _ => rfl
  | .cons b' x k r, c, l, a, b => by
    rw [Fo.goes, Fo.goes]
    split
    · split
      · rcases l.drop x.part.length with _ | ⟨c', l'⟩
        · rfl
        · rw [List.length_cons, List.length_cons]
          exact congrArg (· + 1) (Fo.goes_at k c' l' _ _)
      · rfl
    · exact Fo.goes_at r c l a b
theorem tgo_at (x : Nn) (k : Fo) (l : List UInt8) (a b : Nat) : (tgo x k l a).length = (tgo x k l b).length := by
  have := Fo.goes_at (.cons 0 x k .nil) 0 l a b
  rwa [Fo.goes_cons, Fo.goes_cons, if_pos rfl, if_pos rfl] at this
def RStOk (x : Nn) (k : Fo) : Prop := ∀ (B : Nat) (w : World) (cs : List Value) (A : Option Addr) (n c : Nat) (l : List UInt8), Dno w B x k cs → Byt w B A n l → B ≤ w.heap.size → n ≤ c → n ≤ 1000000 →
  Calls Tryz.prog 20 #[.agg cs.toArray, .slice A n c] w fun e w' => e = .returned (.int .i64 ((tgo x k l 0).length : Int)) ∧ Below w.heap.size w w'
set_option maxRecDepth 100000 in
set_option maxHeartbeats 4000000 in
theorem rsteps_step (x : Nn) (k : Fo) (hK : k.All fun _ x k => RStOk x k) : RStOk x k := by
  intro B w cs A n c l hd hb hB hnc hn
  obtain ⟨d, ek, rfl, ha, hkid⟩ := hd
  have hl : ek.length = d.nk := ha.row.1
  have hnk : d.nk = k.len := by rw [← hl]; exact hkid.len
  have hbl : k.bytes.length = d.nb := ha.byt.1
  have hnb : d.nb = d.nk := by rw [← hbl, hnk]; exact Fo.bytes_len k
  have hpl : x.part.length = d.n := ha.part.1
  have hll : l.length = n := hb.1
  have hn9 : d.nk ≤ 9223372036854775807 := by have := ha.row.2.1; unfold maxLen at this; omega
  have hd9 : d.n ≤ 9223372036854775807 := by have := ha.part.2.1; unfold maxLen at this; omega
  show Calls Tryz.prog 20 #[.agg (dArr (kdV x k) d x.has x.val), .slice A n c] w _
  have hk0 := kd_pos x k
  obtain ⟨tot, htot⟩ : ∃ m, (tgo x k l 0).length = m := ⟨_, rfl⟩
  rw [htot]
  generalize kdV x k = kd at hk0
  generalize x.has = hs
  generalize x.val = vl
  have hk1 : (kd == 0) = false := by rw [beq_eq_false_iff_ne]; omega
  obtain ⟨W, hW⟩ : ∃ V, w.alloc (.cells (dArr kd d hs vl) 51) = V := ⟨_, rfl⟩
  have bW : Below w.heap.size w W := by rw [← hW]; exact (Below.refl _ _).alloc (Nat.le_refl _) _
  have sW : W.heap.size = w.heap.size + 1 := by rw [← hW]; simp
  have lW : Blk W w.heap.size (dArr kd d hs vl) := by rw [← hW]; exact Blk.new w _ _
  have KC := Lib.hid (fun V (h : Below W.heap.size W V) => show V.cell? ⟨w.heap.size, 0, none⟩ = some (.int .i64 kd) ∧ V.cell? ⟨w.heap.size, 1, none⟩ = some (.slice d.A d.n d.c) ∧ V.cell? ⟨w.heap.size, 4, none⟩ = some (.slice d.Ab d.nb d.cb) ∧ V.cell? ⟨w.heap.size, 5, none⟩ = some (.slice d.Ak d.nk d.ck) from
    have hb := lW.below h lW.lt
    ⟨hb.cell 0, hb.cell 1, hb.cell 4, hb.cell 5⟩)
  have BW := Lib.hid bW
  have HD := Lib.hid (fun V (h : Below W.heap.size W V) => ((bW.trans (h.mono bW.size)).mono hB : Below B w V))
  have HR := Lib.hid (fun V (h : Below W.heap.size W V) => ha.row.below (HD.out V h))
  have HBY := Lib.hid (fun V (h : Below W.heap.size W V) => ha.byt.below (HD.out V h))
  have HPT := Lib.hid (fun V (h : Below W.heap.size W V) => ha.part.below (HD.out V h))
  have HKY := Lib.hid (fun V (h : Below W.heap.size W V) => hb.below (HD.out V h))
  have HL := Lib.hid (And.intro hl (And.intro hpl hll))
  have HB := Lib.hid hB
  have HKA := Lib.hid hK
  have HKD := Lib.hid hkid
  have HTT := Lib.hid htot
  have HNC := Lib.hid (And.intro hnc hn)
  obtain ⟨c0, c1, _, _⟩ := KC.out W (Below.refl _ _)
  have HBG := rbegins_any A d.A n d.n c d.c B l x.part W (HKY.out W (Below.refl _ _)) (HPT.out W (Below.refl _ _))
  obtain ⟨bb, hbb⟩ : ∃ b, begB l x.part = b := ⟨_, rfl⟩
  rw [hbb] at HBG
  have HBB := Lib.hid hbb
  have HBG := Lib.hid HBG
  have HW := Lib.hid hW
  have HSW := Lib.hid sW
  clear ha hkid hl hB hK bW lW hb hnk hbl hpl hll htot hnc hn hbb hW sW
  go_enter Tryz.func20, Tryz.ntmps20
  go_wp2_with fail
  rw [HW.out]
  (with_reducible refine HBG.out.mono ?_)
  rintro e w1 ⟨rfl, s1⟩
  have B1 := Lib.hid (s1.below W.heap.size)
  obtain ⟨_, d1, _, _⟩ := KC.out w1 B1.out
  clear s1 HBG c0 c1 hk1
  cases bb with
  | false =>
    have ht : tot = 1 := by rw [← HTT.out, tgo_no HBB.out]; rfl
    go_wp2_with fail
    go_ret
    exact ⟨by rw [ht]; rfl, BW.out.trans (B1.out.mono BW.out.size)⟩
  | true =>
    have hdn : d.n ≤ n := by
      have h1 := beg_len HBB.out
      have h2 := HL.out
      omega
    by_cases he : n = d.n
    · have ht : tot = 1 := by rw [← HTT.out, tgo_end HBB.out (by have := HL.out; omega)]; rfl
      have hx : ((n : Int) == (d.n : Int)) = true := by rw [he]; exact beq_self_eq_true _
      have HT := Lib.hid ht
      clear ht he
      go_wp2_with fail
      go_ret
      exact ⟨by rw [HT.out]; rfl, BW.out.trans (B1.out.mono BW.out.size)⟩
    · have hx : ((n : Int) == (d.n : Int)) = false := by rw [beq_eq_false_iff_ne]; omega
      have hlt : d.n < n := by omega
      obtain ⟨ad, u, rfl, _, e1, f1⟩ := (HKY.out w1 B1.out).at_ hlt
      have hdr : l.drop x.part.length = u :: l.drop (d.n + 1) := by rw [HL.out.2.1]; exact drop_at e1
      have HG := Lib.hid (show tot = 1 + (k.goes u (l.drop (d.n + 1)) (0 + x.part.length + 1)).length from by
        rw [← HTT.out, tgo_on HBB.out hdr, ← Fo.goes_kid, List.length_cons]
        omega)
      obtain ⟨z, hz⟩ : ∃ z, d.n + 1 = z := ⟨_, rfl⟩
      have hzn : z ≤ n := by omega
      have hsl := fun V => slc_from (P := Tryz.prog) Tryz.underlying23 size_u8 (some ad) n c z hzn V
      have ewd : IntKind.i64.wrap ((d.n : Int) + 1) = (z : Int) := by have := HNC.out.2; rw [IntKind.wrap_i64]; omega
      have HNE := Lib.hid he
      have HLT := Lib.hid hzn
      rw [hz] at hdr HG
      obtain ⟨la, hla⟩ : ∃ m, 0 + x.part.length + 1 = m := ⟨_, rfl⟩
      rw [hla] at HG
      obtain ⟨l2, hl2⟩ : ∃ m, l.drop z = m := ⟨_, rfl⟩
      rw [hl2] at HG
      have HL2 := Lib.hid hl2
      have HS := Lib.hid (fun V (h : Below W.heap.size W V) => show Byt V B (cutA (some ad) z c 1) (n - z) l2 from by
        have := (HKY.out V h).cut_ z n HLT.out (Nat.le_refl _) HNC.out.1
        rw [List.take_of_length_le (by have := HL.out; omega), HL2.out] at this
        exact this)
      clear e1 hdr he hla hl2 hz
      go_wp2_with fail
      go_loopw [6] (fun i wr => ∃ (j : Nat) (r : Fo), j ≤ d.nk ∧ i = .int .i64 j ∧ Hid (tot = 1 + (r.goes u l2 la).length ∧ (r.All fun _ x k => RStOk x k) ∧ k.bytes.drop j = r.bytes ∧ r.Dis w B (ek.drop j)) ∧ Hid (Below W.heap.size W wr)) (fun i _ => d.nk - (intOf i).toNat)
      case atStart => exact ⟨0, k, Nat.zero_le _, rfl, Lib.hid ⟨HG.out, HKA.out, by rw [List.drop_zero], HKD.out⟩, B1⟩
      case round =>
        obtain ⟨j, r, hj, rfl, HF, HBr⟩ := hrel
        obtain ⟨_, g1, g4, g5⟩ := KC.out wr HBr.out
        by_cases h1 : j < d.nk
        · obtain ⟨hgo, hall, hbyt, hdis⟩ := HF.out
          obtain ⟨b, x', k', r', d', e2, rfl, hej, hat, hk2, hr2⟩ := hdis.at_ (by have := HL.out; omega)
          obtain ⟨ad2, hA2, _, f0, f1', f2, f3, f4, f5⟩ := kid_cells (HR.out wr HBr.out) h1 hej
          obtain ⟨adb, ub, hAb, _, e3, f6⟩ := (HBY.out wr HBr.out).at_ (show j < d.nb by omega)
          obtain ⟨q1, q2⟩ := drop_cons (show k.bytes.drop j = b :: r'.bytes from hbyt)
          have hub : ub = b := by rw [q1] at e3; injection e3 with e3; exact e3.symm
          subst hub
          rw [hAb] at g4
          rw [hA2] at g5
          have ij : (j : Int) < (d.nk : Int) := by omega
          have ijb : (j : Int) < (d.nb : Int) := by omega
          by_cases hbu : ub = u
          · have hbe : ((ub.toNat : Int) == (u.toNat : Int)) = true := by rw [hbu]; exact beq_self_eq_true _
            have hlen : (tgo x' k' l2 0).length ≤ 1000001 := by
              have h2 := tgo_len x' k' l2 0
              have h3 := congrArg List.length HL2.out
              have h4 := HNC.out.2
              have h5 := HL.out
              rw [List.length_drop] at h3
              omega
            have hto : tot = 1 + (tgo x' k' l2 0).length := by
              rw [hgo, Fo.goes_cons, if_pos hbu, tgo_at x' k' l2 0 la]
            have HCL := Lib.hid (fun V (h : Below W.heap.size W V) => hall.1 B V (d'.cells x' k') (cutA (some ad) z c 1) (n - z) (c - z) l2 ⟨d', e2, rfl, hat.below (HD.out V h), hk2.below (HD.out V h)⟩ (HS.out V h) (Nat.le_trans HB.out (Nat.le_trans BW.out.size h.size)) (by have := HNC.out; omega) (by have := HNC.out; omega))
            obtain ⟨m, hm⟩ : ∃ m, (tgo x' k' l2 0).length = m := ⟨_, rfl⟩
            rw [hm] at HCL hlen hto
            have hck : (d'.cells x' k').toArray = dArr (kdV x' k') d' x'.has x'.val := rfl
            rw [hck] at HCL
            have ewt : IntKind.i64.wrap (1 + (m : Int)) = (tot : Int) := by rw [hto, IntKind.wrap_i64]; omega
            have KP := Lib.hid (fun V (h : Below wr.heap.size wr V) => show V.cell? ⟨w.heap.size, 1, none⟩ = some (.slice d.A d.n d.c) ∧ V.cell? ⟨w.heap.size, 5, none⟩ = some (.slice (some ad2) d.nk d.ck) ∧ V.cell? (ad2.add (j * 6)) = some (.int .i64 (kdV x' k')) ∧ V.cell? ⟨(ad2.add (j * 6)).block, (ad2.add (j * 6)).off + 1, none⟩ = some (.slice d'.A d'.n d'.c) ∧ V.cell? ⟨(ad2.add (j * 6)).block, (ad2.add (j * 6)).off + 2, none⟩ = some (.bool x'.has) ∧ V.cell? ⟨(ad2.add (j * 6)).block, (ad2.add (j * 6)).off + 3, none⟩ = some (.int .u64 x'.val) ∧ V.cell? ⟨(ad2.add (j * 6)).block, (ad2.add (j * 6)).off + 4, none⟩ = some (.slice d'.Ab d'.nb d'.cb) ∧ V.cell? ⟨(ad2.add (j * 6)).block, (ad2.add (j * 6)).off + 5, none⟩ = some (.slice d'.Ak d'.nk d'.ck) from
              ⟨(h.cell (lt_cell g1)).trans g1, (h.cell (lt_cell g5)).trans g5, (h.cell (lt_cell f0)).trans f0, (h.cell (lt_cell f1')).trans f1', (h.cell (lt_cell f2)).trans f2, (h.cell (lt_cell f3)).trans f3, (h.cell (lt_cell f4)).trans f4, (h.cell (lt_cell f5)).trans f5⟩)
            have i0 : (0 : Int) ≤ (j : Int) := by omega
            clear hgo hall hbyt hdis hej hat hk2 hr2 q1 q2 e3 HF hto hm hck hlen hbu
            go_upto_region 10 with fail
            go_region_held3 (fun V => V.cell? ⟨w.heap.size, 1, none⟩ = some (.slice d.A d.n d.c) ∧ V.cell? ⟨w.heap.size, 5, none⟩ = some (.slice (some ad2) d.nk d.ck) ∧ V.cell? (ad2.add (j * 6)) = some (.int .i64 (kdV x' k')) ∧ V.cell? ⟨(ad2.add (j * 6)).block, (ad2.add (j * 6)).off + 1, none⟩ = some (.slice d'.A d'.n d'.c) ∧ V.cell? ⟨(ad2.add (j * 6)).block, (ad2.add (j * 6)).off + 2, none⟩ = some (.bool x'.has) ∧ V.cell? ⟨(ad2.add (j * 6)).block, (ad2.add (j * 6)).off + 3, none⟩ = some (.int .u64 x'.val) ∧ V.cell? ⟨(ad2.add (j * 6)).block, (ad2.add (j * 6)).off + 4, none⟩ = some (.slice d'.Ab d'.nb d'.cb) ∧ V.cell? ⟨(ad2.add (j * 6)).block, (ad2.add (j * 6)).off + 5, none⟩ = some (.slice d'.Ak d'.nk d'.ck))
              (first
              | exact KP.out _ hb1
              | exact KP.out _ (Below.refl wr.heap.size wr).drew
              | exact KP.out _ (Below.refl wr.heap.size wr))
              (first
              | (go_at_call 20; (with_reducible refine (HCL.out wr.drew HBr.out.drew).mono ?_); rintro e v1 ⟨rfl, q1⟩; have hb1 : Below wr.heap.size wr v1 := (Below.refl wr.heap.size wr).drew.trans q1))
            go_wp2_with fail
            go_ret
            exact ⟨rfl, BW.out.trans ((HBr.out.trans (hb1.mono HBr.out.size)).mono BW.out.size)⟩
          · have hbe : ((ub.toNat : Int) == (u.toNat : Int)) = false := by
              rw [beq_eq_false_iff_ne]
              intro q
              exact hbu (UInt8.toNat_inj.1 (by omega))
            have HF2 := Lib.hid (show tot = 1 + (r'.goes u l2 la).length ∧ (r'.All fun _ x k => RStOk x k) ∧ k.bytes.drop (j + 1) = r'.bytes ∧ r'.Dis w B (ek.drop (j + 1)) from ⟨by rw [hgo, Fo.goes_cons, if_neg hbu], hall.2, q2, hr2⟩)
            clear hgo hall hbyt hdis hej hat hk2 hr2 q1 q2 e3 HF hbu f0 f1' f2 f3 f4 f5
            go_wp2_with fail
            exact ⟨⟨j + 1, r', by omega, by go_num, HF2, HBr⟩, by simp [intOf]; omega⟩
        · obtain rfl : j = d.nk := by omega
          obtain ⟨hgo, _, _, hdis⟩ := HF.out
          obtain rfl := hdis.done (by rw [HL.out.1]; exact Nat.le_refl _)
          have ht : tot = 1 := hgo
          have BE := Lib.hid (BW.out.trans (HBr.out.mono BW.out.size))
          have HT := Lib.hid ht
          clear hgo hdis ht HF
          go_wp2_with fail
          go_ret
          exact ⟨by rw [HT.out]; rfl, BE.out⟩
set_option maxRecDepth 100000 in
theorem rsteps_none (A : Option Addr) (n c : Nat) (w : World) : Calls Tryz.prog 20 #[.agg #[.int .i64 0, .slice none 0 0, .bool false, .int .u64 0, .slice none 0 0, .slice none 0 0], .slice A n c] w fun e w' => e = .returned (.int .i64 0) ∧ Below w.heap.size w w' := by
  go_enter Tryz.func20, Tryz.ntmps20
  go_wp2_with fail
  go_ret
  exact ⟨rfl, (Below.refl _ _).alloc (Nat.le_refl _) _⟩
theorem rsteps_any (x : Nn) (k : Fo) : RStOk x k := rsteps_step x k (Fo.all_of (fun _ x k h => rsteps_step x k h) k)
set_option maxRecDepth 100000 in
theorem osteps_any {t : Option (Nn × Fo)} {w : World} {cs : List Value} {A : Option Addr} {n c B : Nat} {l : List UInt8} (h : ODno w t cs) (hb : Byt w B A n l) (hB : B ≤ w.heap.size) (hnc : n ≤ c) (hn : n ≤ 1000000) :
    Calls Tryz.prog 20 #[.agg cs.toArray, .slice A n c] w fun e w' => e = .returned (.int .i64 ((ogo t l 0).length : Int)) ∧ Below w.heap.size w w' := by
  cases t with
  | none =>
    obtain rfl : cs = zero6 := h
    exact rsteps_none A n c w
  | some T => exact rsteps_any T.1 T.2 w.heap.size w cs A n c l h (hb.more hB) (Nat.le_refl _) hnc hn
theorem canT_fits {ps : List PV} (hr : Rsn ps) (hk : ∀ p ∈ ps, p.key.length ≤ 300) (hn : ps.length ≤ 300) : Fits (canT ps) := by
  unfold canT
  by_cases hne : ps = []
  · subst hne
    exact ⟨fun v hv => (by cases hv), (by show (0 : Nat) ≤ _; omega)⟩
  have hne2 : rel 0 ps ≠ [] := by rw [rel_zero]; simpa using hne
  have hc := can_of 1 hr hne (f := 301) (fun p hp => by have := hk p hp; omega)
  unfold bTr
  rw [if_neg hne2]
  exact hc.fits (fun p hp => by obtain ⟨q, hq, rfl⟩ := List.mem_map.1 hp; have := hk q hq; show q.key.length ≤ _; omega) (by rw [List.length_map]; omega)
end Go.Proofs.YtfmkhafpbfmadaaGreat
