/-
  A strings.Builder of the call's own: WriteString, String; a number's digits as strconv tells them.
  What canon.Shape tells of a tree.
-/
import Derived.Test.YtajpipaooaemdaaGreatDoorStops
import Derived.Test.YtajpipaooaemdaaGreatDoorShelf
import Derived.Lib.Builder
import Derived.Laws.Externs
import Derived.Laws.AppendOwn
import Derived.Lib.AppendStr
import Derived.Test.YtajpipaooaemdaaGreatDoorText
import Derived.Test.YtajpipaooaemdaaGreatDoorCanRead
import Derived.Deep.CutBlock
import Derived.Deep.DeepCutAuto
import Derived.Deep.LoopGhost
import Derived.Laws.EntriesVeiled
namespace Go.Proofs.YtajpipaooaemdaaGreatDoor
open Go.RowKit

/-- Block b is a builder that holds l; its bytes' row lies in N. -/
structure Bld (B : Nat) (w : World) (N : Nat → Prop) (b : Nat) (l : List UInt8) : Prop where
  at_ : ∃ p v, w.heap[b]? = some (.cells #[.pointer p, v] 80 (0, 0)) ∧ (p = none ∨ p = some ⟨b, 0, none⟩) ∧ Mine w B 5 v l.length l ∧ ∀ i, v.ownBlock = some i → N i ∧ i ≠ b
  own : N b
  lo : B ≤ b
  new : ∀ i, N i → B ≤ i ∧ i < w.heap.size
theorem Bld.kept {B b : Nat} {w w' : World} {N D : Nat → Prop} {l : List UInt8} (h : Bld B w N b l) (hk : Kept D w w') (hD : ∀ i, N i → ¬ D i) : Bld B w' N b l := by
  obtain ⟨⟨p, v, h1, h2, h3, h4⟩, h5, h6, h7⟩ := h
  exact ⟨⟨p, v, (hk.block b (h7 b h5).2 (hD b h5)).trans h1, h2, h3.kept hk (fun i hi => hD i (h4 i hi).1), h4⟩, h5, h6, fun i hi => ⟨(h7 i hi).1, Nat.lt_of_lt_of_le (h7 i hi).2 hk.size⟩⟩
theorem Bld.isb {B b : Nat} {w : World} {N : Nat → Prop} {l : List UInt8} (h : Bld B w N b l) : Lib.IsBuilder 80 5 B b (Lib.byteCells l) w := by
  obtain ⟨⟨p, v, h1, h2, h3, h4⟩, h5, h6, h7⟩ := h
  have e : Lib.byteCells l = l.map bv := rfl
  have at_ : ∀ q, p = q → Lib.BuilderAt 80 5 B b (.pointer q) (Lib.byteCells l) w := fun q hq => by
    subst hq
    refine ⟨h6, v, h1, ?_, fun q => (h4 b q).2 rfl⟩
    rw [e, List.length_map]
    exact h3
  rcases h2 with rfl | rfl
  · exact .inl (at_ _ rfl)
  · exact .inr (at_ _ rfl)
set_option maxRecDepth 100000 in
theorem sb_size : (Tryz.prog.info? 80).map (·.size) = some 2 := by kernel_rfl
set_option maxRecDepth 100000 in
theorem sb_lies : liesAt Tryz.prog Tryz.prog.depth 80 (2 / Tryz.prog.cellsOf 80) 0 80 1 = true := by kernel_rfl

set_option maxHeartbeats 1000000 in
set_option maxRecDepth 100000 in
theorem copycheck_fresh (b : Nat) (w : World) (h0 : w.cell? ⟨b, 0, none⟩ = some (.pointer none)) (hsh : w.shape? b = some (80, 2)) (hfz : w.frozen? ⟨b, 0, none⟩ = false) :
    Calls Tryz.prog 62 #[.pointer (some ⟨b, 0, none⟩)] w fun e w' => e = .returned (.tuple #[]) ∧ w' = w.setCell ⟨b, 0, none⟩ (.pointer (some ⟨b, 0, none⟩)) := by
  obtain ⟨j, hj, hjs⟩ := Option.map_eq_some_iff.1 sb_size
  go_enter Tryz.func62, Tryz.ntmps62
  go_wp2
  rw [Lib.run_to_unsafe w ⟨b, 0, none⟩ Tryz.underlying78 Tryz.underlying128 hj (by rw [hjs]; decide) hsh (Nat.zero_lt_succ 1)]
  simp only [Result.andThen]
  rw [Oper.upon_value]
  go_wp2
  rw [run_callFunc_extern Tryz.func83 (by kernel_rfl) (by kernel_rfl) (by kernel_rfl) (e := Extern.AbiNoEscape.same) (by kernel_rfl)]
  rw [Lib.run_noEscape]
  simp only [Result.andThen]
  rw [Oper.upon_value]
  go_wp2
  rw [Lib.run_from_unsafe w ⟨b, 0, none⟩ Tryz.underlying128 Tryz.underlying78 hj hsh sb_lies]
  simp only [Result.andThen]
  rw [Oper.upon_value]
  go_wp2
  go_end0
  exact ⟨rfl, rfl⟩
set_option maxHeartbeats 1000000 in
set_option maxRecDepth 100000 in
theorem copycheck_used (b : Nat) (w : World) (h0 : w.cell? ⟨b, 0, none⟩ = some (.pointer (some ⟨b, 0, none⟩))) :
    Calls Tryz.prog 62 #[.pointer (some ⟨b, 0, none⟩)] w fun e w' => e = .returned (.tuple #[]) ∧ w' = w := by
  obtain ⟨j, hj, _⟩ := Option.map_eq_some_iff.1 sb_size
  have hne := Lib.run_neq_ptr_same (P := Tryz.prog) w ⟨b, 0, none⟩ Tryz.underlying78 hj
  go_enter Tryz.func62, Tryz.ntmps62
  go_wp2
  go_end0
  exact ⟨rfl, rfl⟩

/-- append of a string onto a row of bytes of the call's own. -/
theorem run_append_str {P : Program} (w : World) {t u ty e : TypeId} (ht : P.underlying t = some (.slice e)) (hu : P.underlying u = some .string) (hi : (P.info? e).map (fun i => (i.zero, i.size, i.bytes)) = some (some (.int .u8 0), 1, 1))
    (base : Nat) (v : Value) (n : Nat) (l m : List UInt8) (hown : Mine w base e v n l) (hbytes : n + m.length ≤ 140737488355328) (hbase : base ≤ w.heap.size) :
    ∃ v' w', (Builtin.append_ #[t, u] ty #[v, .string (bstr m)]).run P w = .ok v' w' ∧ Mine w' base e v' (n + m.length) (l ++ m) ∧ w.grownBy w' v.ownBlock ∧ ∀ i, v'.ownBlock = some i → v.ownBlock = some i ∨ w.heap.size ≤ i := by
  obtain ⟨i0, hi0, hz0, hz1, hz2⟩ := info_parts hi
  have hsz : (bstr m).size = m.length := by simp [bstr, ByteArray.size]
  have e1 : Lib.strCells (bstr m) = m.map bv := by simp only [Lib.strCells, bstr]; rfl
  have law : ∀ base', base' ≤ w.heap.size → Mine w base' e v n l → ∃ v' w', (Builtin.append_ #[t, u] ty #[v, .string (bstr m)]).run P w = .ok v' w' ∧ Mine w' base' e v' (n + m.length) (l ++ m) ∧ w.grownBy w' v.ownBlock := fun base' hb' ho => by
    obtain ⟨v', w', hrun, h2, h3, _⟩ := Lib.run_append_own_string (P := P) w base' t u ty e i0 ht hu hi0 hz0 hz1 hz2 v n (l.map bv) ho (bstr m) (by rw [hsz]; unfold maxLen; omega) (by rw [hsz]; omega) hb'
    refine ⟨v', w', hrun, ?_, h3⟩
    unfold Mine
    rw [List.map_append, ← e1, ← hsz]
    exact h2
  obtain ⟨v', w', hrun, h2, h3⟩ := law base hbase hown
  refine ⟨v', w', hrun, h2, h3, fun i hi => ?_⟩
  rcases hown.2 with ⟨rfl, rfl⟩ | ⟨g, cap, cur, rfl, hbg, hg, hnc, hcm, hcs, htake⟩
  · obtain ⟨v2, w2, hr2, k2, _⟩ := law w.heap.size (Nat.le_refl _) ⟨hown.1, .inl ⟨rfl, rfl⟩⟩
    rw [hrun] at hr2
    injection hr2 with e2 e3
    subst e2
    exact .inr (k2.lt i hi).1
  · by_cases hroom : n + (bstr m).size ≤ cap
    · have hr := Lib.run_append_room_string (P := P) w t u ty e i0 ht hu hi0 hz1 g n cap cur hg (bstr m) hroom (by simp at hcs; omega)
      rw [hrun] at hr
      injection hr with e2 e3
      subst e2
      exact .inl hi
    · have holds : ∀ j u, (l.map bv)[j]? = some u → w.cell? ((⟨g, 0, none⟩ : Addr).add j) = some u := World.ownsRow.cells hown (g := g) rfl
      have hl := Mine.length hown
      have hr := Lib.run_append_grow_string (P := P) w t u ty e i0 (.int .u8 0) ht hu hi0 hz0 ⟨g, 0, none⟩ n cap (l.map bv) (by rw [hz1]; simp; omega) holds (bstr m) (by omega) (by omega) (by rw [hz2]; exact growslice_fits (by omega) (by omega))
      rw [hrun] at hr
      injection hr with e2 e3
      subst e2
      have : w.heap.size = i := by simpa [Value.ownBlock] using hi
      exact .inr (by omega)
theorem wpList_append_eq {P : Program} {w : World} {ops : Array Oper} {rest : List Oper} {o : Oper} {a : Act} {Q : Exit → Act → World → Prop} (hgd : o.guard = none) (s x : Operand) (t u : TypeId)
    (ho : o.op = .call { callee := .builtin .append, args := #[s, x], argTypes := #[t, u] }) {v v' y : Value} {w' : World} (hs : a.eval s = v) (hx : a.eval x = y)
    (hrun : (Builtin.append_ #[t, u] o.type #[v, y]).run P w = .ok v' w') (h : wpList P ops Q rest (a.put o.dst v') w') : wpList P ops Q (o :: rest) a w :=
  wpList_plain hgd fun _ hK => by
    unfold Oper.wp execOp
    simp only [ho, resolve, invoke, builtin, Sem.run_bind, Sem.run_pure, Result.andThen_ok, List.map_toArray, List.map_cons, List.map_nil, hs, hx, hrun]
    exact hK _ _ h

/-- What a write to a builder leaves. -/
def WrPost (B : Nat) (w : World) (N : Nat → Prop) (b : Nat) (l : List UInt8) (k : Nat) (e : Ending) (w' : World) : Prop :=
  e = .returned (.tuple #[.int .i64 (k : Int), .nilIface]) ∧ ∃ N', Bld B w' N' b l ∧ Kept N w w' ∧ ∀ i, N' i → N i ∨ w.heap.size ≤ i
set_option maxRecDepth 100000 in
set_option maxHeartbeats 1000000 in
theorem writestring_any {B b : Nat} {w : World} {N : Nat → Prop} {l : List UInt8} (h : Bld B w N b l) (m : List UInt8) (hn : l.length + m.length ≤ 140737488355328) (hB : B ≤ w.heap.size) :
    Calls Tryz.prog 39 #[.pointer (some ⟨b, 0, none⟩), .string (bstr m)] w (WrPost B w N b (l ++ m) m.length) := by
  have HH := Lib.hid h
  obtain ⟨⟨p, v, h1, h2, h3, h4⟩, h5, h6, h7⟩ := h
  -- behind the look at the copy
  obtain ⟨W, hW⟩ : ∃ W, W = w.setCell ⟨b, 0, none⟩ (.pointer (some ⟨b, 0, none⟩)) := ⟨_, rfl⟩
  have hcc : Calls Tryz.prog 62 #[.pointer (some ⟨b, 0, none⟩)] w fun e w' => e = .returned (.tuple #[]) ∧ Kept (· = b) w w' ∧ w'.heap[b]? = some (.cells #[.pointer (some ⟨b, 0, none⟩), v] 80 (0, 0)) := by
    rcases h2 with rfl | rfl
    · refine (copycheck_fresh b w (by simp [World.cell?, h1]) (by simp [World.shape?, h1]) (by simp [World.frozen?, h1])).mono ?_
      rintro e w' ⟨rfl, rfl⟩
      exact ⟨rfl, Kept.set_ _ _ _ rfl, by simp [World.setCell, Array.getElem?_modify, h1]⟩
    · refine (copycheck_used b w (by simp [World.cell?, h1])).mono ?_
      rintro e w' ⟨rfl, rfl⟩
      exact ⟨rfl, Kept.refl _ _, h1⟩
  have HC := Lib.hid hcc
  have hLn : (l ++ m).length = l.length + m.length := by simp
  clear hcc hW W h1 h2
  go_enter Tryz.func39, Tryz.ntmps39
  go_wp2_with fail
  (with_reducible refine HC.out.mono ?_)
  rintro e w1 ⟨rfl, k1, b1⟩
  have m1 := h3.kept k1 (fun i hi e => (h4 i hi).2 e)
  obtain ⟨A1, c1, rfl⟩ := h3.slice
  have ce : w1.cell? ⟨b, 1, none⟩ = some (.slice A1 l.length c1) := by simp [World.cell?, b1]
  obtain ⟨v2, w2, r1, r2, r3, r4⟩ := run_append_str (P := Tryz.prog) w1 (t := 23) (u := 9) (ty := 23) Tryz.underlying23 Tryz.underlying9 info_u8 B _ _ l m m1 hn (Nat.le_trans hB k1.size)
  obtain ⟨A2, cc2, rfl⟩ := Mine.slice r2
  have hbl : b < w1.heap.size := by have := (h7 b h5).2; have := k1.size; omega
  have b2 : w2.heap[b]? = some (.cells #[.pointer (some ⟨b, 0, none⟩), .slice A1 l.length c1] 80 (0, 0)) := (r3.block b hbl (fun q => (h4 b q.symm).2 rfl)).trans b1
  have c2 : w2.cell? ⟨b, 1, none⟩ = some (.slice A1 l.length c1) := by simp [World.cell?, b2]
  have z2 : w2.frozen? ⟨b, 1, none⟩ = false := by simp [World.frozen?, b2]
  have ks : Kept (· = b) w2 (w2.setCell ⟨b, 1, none⟩ (.slice A2 (l.length + m.length) cc2)) := Kept.set_ _ _ _ rfl
  have k2 : Kept N w1 w2 := ⟨r3.os, r3.tape, r3.output, r3.size, fun i hi hn => r3.block i hi (fun q => hn (h4 i q.symm).1)⟩
  have own2 : ∀ i, (Value.slice A2 (l.length + m.length) cc2).ownBlock = some i → (N i ∨ w.heap.size ≤ i) ∧ i ≠ b := fun i hi => by
    rcases r4 i hi with q | q
    · exact ⟨.inl (h4 i q).1, (h4 i q).2⟩
    · have := k1.size; exact ⟨.inr (by omega), by omega⟩
  have HE := Lib.hid (show WrPost B w N b (l ++ m) m.length (.returned (.tuple #[.int .i64 (m.length : Int), .nilIface])) (w2.setCell ⟨b, 1, none⟩ (.slice A2 (l.length + m.length) cc2)) from by
    have s1 := k1.size
    have s2 := r3.size
    have s3 := ks.size
    refine ⟨rfl, fun i => N i ∨ (w.heap.size ≤ i ∧ i < w2.heap.size), ⟨⟨some ⟨b, 0, none⟩, .slice A2 (l.length + m.length) cc2, ?_, .inr rfl, ?_, fun i hi => ⟨?_, (own2 i hi).2⟩⟩, .inl h5, h6, fun i hi => ?_⟩, ((k1.mono (fun i e => e ▸ h5)).trans k2).trans (ks.mono (fun i e => e ▸ h5)), fun i q => q.elim .inl (fun q => .inr q.1)⟩
    · simp [World.setCell, Array.getElem?_modify, b2]
    · rw [hLn]; exact r2.kept ks (fun i hi e => (own2 i hi).2 e)
    · rcases (own2 i hi).1 with q | q
      · exact .inl q
      · exact .inr ⟨q, (r2.lt i hi).2⟩
    · rcases hi with q | q
      · have := h7 i q; omega
      · omega)
  clear k1 b1 m1 h3 h4 h5 h6 h7 r2 r3 r4 b2 ks k2 own2 hbl
  go_wp2_with (at_builtin; refine wpList_append_eq rfl (.tmp 12) (.tmp 13) _ _ rfl (by rfl) (by rfl) r1 ?_)
  all_goals
    go_ret2
    exact HE.out

/-- The table that numDigits reads. -/
abbrev Tb (w : World) : Prop := Lib.TabIs Tryz.prog w "internal/strconv.uint64pow10" .u64 Lib.pow10Tab
set_option maxRecDepth 100000 in
theorem tb_num : Tryz.prog.globalNamed "internal/strconv.uint64pow10" = some 0 := by kernel_rfl
theorem Tb.lt {w : World} (h : Tb w) : 0 < w.heap.size := by
  unfold Tb Lib.TabIs World.var? at h
  rw [tb_num] at h
  rcases Nat.lt_or_ge 0 w.heap.size with q | q
  · exact q
  · simp [Array.getElem?_eq_none q] at h
theorem Tb.below {w w' : World} {B : Nat} (h : Tb w) (hb : Below B w w') (hB : 0 < B) : Tb w' := by
  unfold Tb Lib.TabIs World.var? at h ⊢
  rw [tb_num] at h ⊢
  simp only [Option.bind_some] at h ⊢
  rw [hb.block _ hB]
  exact h
theorem below_grow (w : World) (os : Array Obj) : Below w.heap.size w (Sort.grow w os) :=
  ⟨rfl, rfl, rfl, by simp, fun k hk => by simp [Sort.grow, Array.getElem?_append, hk]⟩
set_option maxRecDepth 100000 in
theorem itoa_any (n : Nat) (w : World) (hn : n ≤ 9223372036854775807) (ht : Tb w) : Calls Tryz.prog 38 #[.int .i64 (n : Int)] w fun e w' => e = .returned (.string (bstr (Lib.decDigits n))) ∧ Below w.heap.size w w' := by
  refine (sh_strconv_Itoa (n : Int) (by omega) (by omega) w ht).mono ?_
  rintro e w' ⟨rfl, k, os, rfl⟩
  rw [Lib.itoa_nonneg]
  exact ⟨rfl, (below_drewN (Below.refl _ _) k).trans (show Below w.heap.size (w.drewN k) _ from below_grow (w.drewN k) os)⟩

open Go.Lib Go.Sort in
set_option maxRecDepth 100000 in
set_option maxHeartbeats 1000000 in
theorem iformat_any (u : Nat) (hu : u < 18446744073709551616) (w : World) (htab : Tb w) :
    Calls Tryz.prog 63 #[.int .u64 (u : Int), .int .i64 10] w fun e w' => e = .returned (.string (bstr (Lib.decDigits u))) ∧ Below w.heap.size w w' := by
  by_cases hs : u < 100
  · have HS := Lib.hid (sh_internal_strconv_small u hs w)
    have ew : IntKind.i64.wrap (u : Int) = (u : Int) := by rw [IntKind.wrap_i64]; omega
    have hui : (u : Int) < 100 := by omega
    go_enter Tryz.func63, Tryz.ntmps63
    go_wp2_with fail
    (with_reducible refine HS.out.mono ?_)
    rintro e w' ⟨rfl, rfl⟩
    go_wp2
    go_ret
    exact ⟨rfl, Below.refl _ _⟩
  · have hu1 : 1 ≤ u := by omega
    have hnd20 : Lib.nDigits u ≤ 20 := by have := Lib.numDigits_eq u hu1 hu; split at this <;> omega
    have HN := Lib.hid (sh_internal_strconv_numDigits u hu1 hu (w.alloc (.cells Lib.zeros24 130)) (Lib.tabIs_alloc htab _))
    have hal : Tryz.prog.arrayLen 130 = 24 := by kernel_rfl
    have hsl1 : ∀ W, (Instr.sliceAt 130 (.pointer (some ⟨w.heap.size, 0, none⟩)) none (some (.int .i64 (Lib.nDigits u : Int))) none).run Tryz.prog W = .ok (.slice (some ⟨w.heap.size, 0, none⟩) (Lib.nDigits u) 24) W := fun W => by
      rw [run_sliceAt_array_h W 130 ⟨w.heap.size, 0, none⟩ (by kernel_rfl) .i64 (Lib.nDigits u : Int) (by omega) (by rw [hal]; omega)]
      go_simp
    have hH0 : Holds (fun (b : UInt8) => Value.int .u8 (b.toNat : Int)) (w.alloc (.cells Lib.zeros24 130)) w.heap.size 0 (Array.replicate (Lib.nDigits u) (0 : UInt8)) := fun j hj => by
      have hj' : j < Lib.nDigits u := by simpa using hj
      refine ⟨?_, World.frozen?_alloc_new _ _ _ _⟩
      rw [World.cell?_alloc_new, Lib.zeros24_at _ (by omega), getElem!_pos _ j hj]
      simp
    have hfmt := sh_internal_strconv_formatBase10 w.heap.size 0 24 u (Array.replicate (Lib.nDigits u) 0) (w.alloc (.cells Lib.zeros24 130)) hH0 (by rw [Array.size_replicate]; exact Lib.lt_pow_nDigits u) hu (by rw [Array.size_replicate]; omega)
    rw [Array.size_replicate] at hfmt
    have HF := Lib.hid hfmt
    have HH0 := Lib.hid hH0
    have hui : ¬ (u : Int) < 100 := by omega
    obtain ⟨nd, hnd⟩ : ∃ nd, Lib.nDigits u = nd := ⟨_, rfl⟩
    have hdl : (Lib.decDigits u).length = nd := by rw [← hnd]; exact Lib.decDigits_length u
    clear hH0 hal hfmt htab
    rw [hnd] at HN hsl1 HF HH0
    have HND := Lib.hid hnd
    have HDL := Lib.hid hdl
    clear hnd hdl hnd20
    go_enter Tryz.func63, Tryz.ntmps63
    go_wp2_with fail
    (refine HN.out.mono ?_)
    rintro e w' ⟨rfl, rfl⟩
    go_wp2_with fail
    (refine HF.out.mono ?_)
    rintro e w' ⟨rfl, k, v', dk, rfl, hF⟩
    have hcv : (convert 23 9 (.slice (some ⟨w.heap.size, 0, none⟩) nd 24)).run Tryz.prog ((putRow (fun (b : UInt8) => Value.int .u8 (b.toNat : Int)) (w.alloc (.cells Lib.zeros24 130)) w.heap.size 0 dk).drewN k) = .ok (.string (bstr (Lib.decDigits u))) ((putRow (fun (b : UInt8) => Value.int .u8 (b.toNat : Int)) (w.alloc (.cells Lib.zeros24 130)) w.heap.size 0 dk).drewN k) := by
      have h := run_convert_bytes_back (P := Tryz.prog) ((putRow (fun (b : UInt8) => Value.int .u8 (b.toNat : Int)) (w.alloc (.cells Lib.zeros24 130)) w.heap.size 0 dk).drewN k) 23 9 5 ⟨w.heap.size, 0, none⟩ 24 (Lib.decDigits u) Tryz.underlying23 Tryz.underlying5 Tryz.underlying9 (fun j hj => by
        rw [← HND.out] at hF
        rw [Lib.row_is_numeral hF j hj, Lib.add_plain, World.cell?_drewN]
        exact cell?_putRow (fun (b : UInt8) => Value.int .u8 (b.toNat : Int)) _ w.heap.size 0 _ dk HH0.out (by rw [hF.size, Array.size_replicate, HND.out]) j (by rw [hF.size]; rw [Lib.decDigits_length] at hj; exact hj))
      rw [HDL.out] at h
      exact h
    have HE := Lib.hid (show Below w.heap.size w ((putRow (fun (b : UInt8) => Value.int .u8 (b.toNat : Int)) (w.alloc (.cells Lib.zeros24 130)) w.heap.size 0 dk).drewN k) from by
      refine below_drewN ?_ k
      rw [alloc_eq_grow]
      obtain ⟨os', _, e⟩ := putRow_grow_new (fun (b : UInt8) => Value.int .u8 (b.toNat : Int)) w #[.cells Lib.zeros24 130] w.heap.size 0 dk (Nat.le_refl _)
      rw [e]
      exact below_grow _ _)
    clear hF
    go_wp2
    go_ret
    exact ⟨rfl, HE.out⟩
set_option maxRecDepth 100000 in
theorem format_any (u : Nat) (hu : u < 18446744073709551616) (w : World) (htab : Tb w) :
    Calls Tryz.prog 42 #[.int .u64 (u : Int), .int .i64 10] w fun e w' => e = .returned (.string (bstr (Lib.decDigits u))) ∧ Below w.heap.size w w' := by
  have H := Lib.hid (iformat_any u hu w htab)
  clear htab
  go_enter Tryz.func42, Tryz.ntmps42
  go_wp2_with fail
  (with_reducible refine H.out.mono ?_)
  rintro e w' ⟨rfl, hb⟩
  have HB := Lib.hid hb
  clear hb
  go_wp2
  go_ret
  exact ⟨rfl, HB.out⟩
end Go.Proofs.YtajpipaooaemdaaGreatDoor

namespace Go.Proofs.YtajpipaooaemdaaGreatDoor
open Go.RowKit

def valL (x : Nn) : List UInt8 := if x.has then 61 :: Lib.decDigits x.val.toNat else []
def begL (x : Nn) (nk : Nat) : List UInt8 := if x.leaf then [76] else Lib.decDigits (kindN nk) ++ [60]
def endL (x : Nn) : List UInt8 := if x.leaf then [] else [62]
/-- The shapes of trees, each behind its byte. -/
def Fo.sh : Fo → List UInt8
  | .nil => []
  | .cons b x k r => (58 :: textL [b]) ++ ((begL x k.len ++ textL x.part) ++ valL x ++ k.sh ++ endL x) ++ r.sh
/-- A tree's shape. -/
def shL (x : Nn) (k : Fo) : List UInt8 := (begL x k.len ++ textL x.part) ++ valL x ++ k.sh ++ endL x
theorem Fo.sh_cons (b : UInt8) (x : Nn) (k r : Fo) : (Fo.cons b x k r).sh = (58 :: textL [b]) ++ shL x k ++ r.sh := rfl
def oshL : Option (Nn × Fo) → List UInt8
  | none => [46]
  | some (x, k) => shL x k
/-- Its nodes' values are numbers, its parts are short. -/
def Nn.ok (x : Nn) : Prop := x.part.length ≤ 70000 ∧ 0 ≤ x.val ∧ x.val ≤ 18446744073709551615
def Fo.ok : Fo → Prop
  | .nil => True
  | .cons _ x k r => x.ok ∧ k.ok ∧ r.ok
def ook : Option (Nn × Fo) → Prop
  | none => True
  | some (x, k) => x.ok ∧ k.ok
theorem bstr_append (a b : List UInt8) : bstr a ++ bstr b = bstr (a ++ b) := by
  apply ByteArray.ext
  simp [bstr, ByteArray.data_append]

theorem bstr_size (l : List UInt8) : (bstr l).size = l.length := by simp [bstr, ByteArray.size]
theorem dec_len (u : Nat) (hu : u < 18446744073709551616) : (Lib.decDigits u).length ≤ 20 := by
  rcases Nat.eq_zero_or_pos u with h | h
  · subst h
    unfold Lib.decDigits
    simp
  · rw [Lib.decDigits_length]
    have := Lib.numDigits_eq u h hu
    split at this <;> omega
/-- From w, of whose blocks above B those in N were the builder's, on: the builder holds l; what else w has is as it was. -/
def Sh (B b : Nat) (w : World) (N : Nat → Prop) (l : List UInt8) (W : World) : Prop := ∃ N', Bld B W N' b l ∧ Kept N w W ∧ ∀ i, N' i → N i ∨ w.heap.size ≤ i
section
variable {B b : Nat} {w W W' : World} {N : Nat → Prop} {l : List UInt8}
theorem Sh.start (h : Bld B w N b l) : Sh B b w N l w := ⟨N, h, Kept.refl _ _, fun _ q => .inl q⟩
theorem Sh.below (h : Sh B b w N l W) (hb : Below W.heap.size W W') : Sh B b w N l W' := by
  obtain ⟨N', h1, h2, h3⟩ := h
  exact ⟨N', h1.kept (D := fun _ => False) (Kept.of_below hb) (fun _ _ q => q), h2.trans (Kept.of_below hb), h3⟩
theorem Sh.still (h : Sh B b w N l W) (hs : Still W W') : Sh B b w N l W' := h.below (hs.below _)
theorem Sh.step {m : List UInt8} {N' : Nat → Prop} (h2 : Kept N w W) (h3 : ∀ i, N' i → N i ∨ w.heap.size ≤ i) (h : Sh B b W N' m W') : Sh B b w N m W' := by
  obtain ⟨N2, k1, k2, k3⟩ := h
  refine ⟨N2, k1, ⟨k2.os.trans h2.os, k2.tape.trans h2.tape, k2.output.trans h2.output, Nat.le_trans h2.size k2.size, fun i hi hn => (k2.block i (Nat.lt_of_lt_of_le hi h2.size) (fun q => ?_)).trans (h2.block i hi hn)⟩, fun i hi => ?_⟩
  · rcases h3 i q with q | q
    · exact hn q
    · omega
  · rcases k3 i hi with q | q
    · exact h3 i q
    · exact .inr (Nat.le_trans h2.size q)
theorem Sh.size (h : Sh B b w N l W) : w.heap.size ≤ W.heap.size := by obtain ⟨N', _, h2, _⟩ := h; exact h2.size
theorem Sh.keeps (h : Sh B b w N l W) (hN : ∀ i, N i → B ≤ i) (hB : B ≤ w.heap.size) : Below B w W := by obtain ⟨N', _, h2, _⟩ := h; exact h2.below hB hN
set_option maxRecDepth 100000 in
theorem Sh.write (h : Sh B b w N l W) (m : List UInt8) (hn : l.length + m.length ≤ 140737488355328) (hB : B ≤ w.heap.size) :
    Calls Tryz.prog 39 #[.pointer (some ⟨b, 0, none⟩), .string (bstr m)] W fun e w' => e = .returned (.tuple #[.int .i64 (m.length : Int), .nilIface]) ∧ Sh B b w N (l ++ m) w' := by
  obtain ⟨N', h1, h2, h3⟩ := h
  refine (writestring_any h1 m hn (Nat.le_trans hB h2.size)).mono ?_
  rintro e w' ⟨rfl, N2, k1, k2, k3⟩
  exact ⟨rfl, Sh.step h2 h3 ⟨N2, k1, k2, k3⟩⟩
end
/-- What is told of a tree behind l. -/
def TellPost (B b : Nat) (w : World) (N : Nat → Prop) (l : List UInt8) (e : Ending) (w' : World) : Prop :=
  e = .returned (.tuple #[]) ∧ Sh B b w N l w'
def Tells (B b c : Nat) (x : Nn) (k : Fo) : Prop :=
  ∀ (w : World) (N : Nat → Prop) (l : List UInt8) (g : Nat), Tre w (· < B) x k g → x.ok → k.ok → Bld B w N b l → Blk w c #[.func (.func 37) #[] #[.pointer (some ⟨b, 0, none⟩), .pointer (some ⟨c, 0, none⟩)]] → ¬ N c → Tb w → 0 < B → B ≤ w.heap.size →
    l.length + (shL x k).length ≤ 140737488355328 →
    Calls Tryz.prog 37 #[.pointer (some ⟨g, 0, none⟩), .pointer (some ⟨b, 0, none⟩), .pointer (some ⟨c, 0, none⟩)] w (TellPost B b w N (l ++ shL x k))
set_option maxRecDepth 100000 in
theorem Sh.tell {B b c : Nat} {w W : World} {N : Nat → Prop} {l : List UInt8} (h : Sh B b w N l W) {x : Nn} {k : Fo} {g : Nat} (hT : Tells B b c x k) (ht : Tre w (· < B) x k g) (o1 : x.ok) (o2 : k.ok) (hN : ∀ i, N i → B ≤ i) (hc : Blk w c #[.func (.func 37) #[] #[.pointer (some ⟨b, 0, none⟩), .pointer (some ⟨c, 0, none⟩)]]) (hNc : ¬ N c)
    (htb : Tb w) (h0 : 0 < B) (hB : B ≤ w.heap.size) (hl : l.length + (shL x k).length ≤ 140737488355328) :
    Calls Tryz.prog 37 #[.pointer (some ⟨g, 0, none⟩), .pointer (some ⟨b, 0, none⟩), .pointer (some ⟨c, 0, none⟩)] W fun e w' => e = .returned (.tuple #[]) ∧ Sh B b w N (l ++ shL x k) w' := by
  have hb := h.keeps hN hB
  obtain ⟨N', h1, h2, h3⟩ := h
  refine (hT W N' l g (ht.below (fun _ q => q) hb) o1 o2 h1 (h2.blk hc hNc) (fun q => ?_) (htb.below hb h0) h0 (Nat.le_trans hB h2.size) hl).mono ?_
  · rcases h3 c q with q | q
    · exact hNc q
    · have := hc.lt; omega
  · rintro e w' ⟨rfl, hs⟩
    exact ⟨rfl, Sh.step h2 h3 hs⟩
set_option maxHeartbeats 2000000 in
set_option maxRecDepth 100000 in
theorem tells_step {B b c : Nat} (x : Nn) (k : Fo) (hK : k.All fun _ x k => Tells B b c x k) : Tells B b c x k := by
  intro w N l g ht ok okk hb hc hNc htb hB0 hB hlen
  have HT0 := Lib.hid ht
  obtain ⟨be, A', ek, t1, t2, t3⟩ := ht
  have HK := Lib.hid (nkind_any t1)
  have hleaf : x.leaf = true → k = .nil := fun hl => by
    have := t1.kids
    cases be with
    | non => obtain ⟨_, he⟩ := this; have he' : ek = [] := he; subst he'; cases k with
      | nil => rfl
      | cons b' x' k' r' => obtain ⟨g', be', A'', ek', er', e, _⟩ := t3; cases e
    | at_ q o => have := this.1; rw [show (x.nd ek).leaf = x.leaf from rfl, hl] at this; cases this
  have hek : ek.length = k.len := t3.len
  have hkd : kindD (x.nd ek) = if x.leaf then 1 else (kindN k.len : Int) := by unfold kindD; rw [← hek]
  rw [hkd] at HK
  have HKs := Lib.hid (fun W (hs : Still w W) => show Calls Tryz.prog 30 #[.pointer (some ⟨g, 0, none⟩)] W fun e w' => e = .returned (.int .i64 (if x.leaf then 1 else (kindN k.len : Int))) ∧ Still W w' from by rw [← hkd]; exact nkind_any (t1.still hs))
  have T1 := Lib.hid t1
  have T3 := Lib.hid t3
  have HB := Lib.hid hb
  have HTB := Lib.hid htb
  have HLN := Lib.hid hlen
  have hkn : ¬ (kindN k.len : Int) = 1 := kindN_ne _
  have hkl : kindN k.len ≤ 256 := by unfold kindN; split <;> (try split) <;> (try split) <;> omega
  have htl := htb.lt
  have HD1 := Lib.hid (fun W (hW : Below w.heap.size w W) => itoa_any (kindN k.len) W (by omega) (htb.below hW htl))
  have HBE := Lib.hid (show bstr (Lib.decDigits (kindN k.len)) ++ ByteArray.mk #[60] = bstr (Lib.decDigits (kindN k.len) ++ [60]) from bstr_append _ [60])
  have hN : ∀ i, N i → B ≤ i := fun i q => (hb.new i q).1
  have NW := Lib.hid (show ∀ W', Below B w W' → Nod W' g (x.nd ek) be A' from fun W' hb' => T1.out.kept (D := fun i => B ≤ i) (Kept.of_below' hb') (fun i hi q => by have := t2 i hi; omega))
  have hpl : x.part.length ≤ 70000 := ok.1
  have hv0 := Lib.hid (show x.val = (x.val.toNat : Int) from (Int.toNat_of_nonneg ok.2.1).symm)
  have hv1 : x.val.toNat < 18446744073709551616 := by have := ok.2.2; omega
  have z1 : (begL x k.len).length ≤ 21 := by unfold begL; split
                                             · simp
                                             · have := dec_len (kindN k.len) (by omega); simp; omega
  have UP := Lib.hid t1.up
  clear t1 t3 hb htb hlen hek hkd
  go_enter Tryz.func37, Tryz.ntmps37
  go_wp2_with fail
  (with_reducible refine HK.out.mono ?_)
  rintro e w1 ⟨rfl, hs⟩
  have HS1 := Lib.hid hs
  obtain ⟨kd, hkd⟩ : ∃ kd : Int, (if x.leaf then 1 else (kindN k.len : Int)) = kd := ⟨_, rfl⟩
  rw [hkd] at HKs ⊢
  have KD := Lib.hid hkd
  clear hs HK hkd
  go_upto_if 12 with fail
  go_cut [4, 5] (fun vb ve wc => vb = .string (bstr (begL x k.len)) ∧ ve = .string (bstr (endL x)) ∧ Below w.heap.size w wc)
  case first =>
    cases hlf : x.leaf with
    | true =>
      have HLF := Lib.hid hlf
      have hkd := KD.out
      rw [hlf] at hkd
      simp only [if_true] at hkd
      subst hkd
      clear hlf
      go_wp2_with fail
      go_meet
      exact ⟨by unfold begL; rw [HLF.out]; rfl, by unfold endL; rw [HLF.out]; rfl, HS1.out.below _⟩
    | false =>
      have HLF := Lib.hid hlf
      have hkd := KD.out
      rw [hlf] at hkd
      simp only [Bool.false_eq_true, if_false] at hkd
      rw [hkd] at HD1 hkn
      have hkb : (kd != 1) = true := by simpa using hkn
      have H2 := Lib.hid (HKs.out w1 HS1.out)
      clear hlf hkd
      go_wp2_with fail
      (with_reducible refine H2.out.mono ?_)
      rintro e w2 ⟨rfl, hs⟩
      have hz : (bstr (Lib.decDigits (kindN k.len))).size ≤ 20 := by rw [bstr_size]; exact dec_len _ (by omega)
      have H3 := Lib.hid (HD1.out w2 ((HS1.out.trans hs).below _))
      have HS2 := Lib.hid (HS1.out.trans hs)
      clear hs H2
      go_wp2_with fail
      (with_reducible refine H3.out.mono ?_)
      rintro e w3 ⟨rfl, hb⟩
      have HB3 := Lib.hid ((HS2.out.below w.heap.size).trans (hb.mono (HS2.out.below w.heap.size).size))
      clear hb H3
      go_wp2_with fail
      go_meet
      exact ⟨by rw [HBE.out]; unfold begL; rw [HLF.out]; rfl, by unfold endL; rw [HLF.out]; rfl, HB3.out⟩
  case rest =>
    obtain ⟨rfl, rfl, hb1⟩ := hcut
    generalize hw1 : wc = w1' at *
    clear hw1
    have S1 := Lib.hid (show Sh B b w N l w1' from (Sh.start HB.out).below hb1)
    have P1 := Lib.hid (npart_any (NW.out w1' (hb1.mono hB)))
    clear HD1 HKs HS1 KD HBE hb1 hkn
    go_wp2_with fail
    (with_reducible refine P1.out.mono ?_)
    rintro e w2 ⟨A1, c1, rfl, y1, _, y3⟩
    have S2 := Lib.hid (show Sh B b w N l w2 from S1.out.below ⟨y3.os, y3.tape, y3.output, y3.size, y3.block⟩)
    have X2 := Lib.hid (text_any A1 x.part.length c1 w2.heap.size x.part w2 y1 (Nat.le_refl _) hpl)
    clear S1 P1 y1 y3
    go_wp2_with fail
    (with_reducible refine X2.out.mono ?_)
    rintro e w3 ⟨rfl, y3⟩
    have S3 := Lib.hid (show Sh B b w N l w3 from S2.out.below y3)
    have z2 : (bstr (begL x k.len)).size ≤ 21 := by rw [bstr_size]; exact z1
    have z3 : (bstr (textL x.part)).size ≤ 140000 := by rw [bstr_size, textL_length]; omega
    have H3 := Lib.hid (S3.out.write (begL x k.len ++ textL x.part) (by have := HLN.out; unfold shL at this; simp only [List.length_append] at this ⊢; omega) hB)
    clear S2 X2 y3
    rw [← bstr_append] at H3
    go_wp2_with fail
    (with_reducible refine H3.out.mono ?_)
    rintro e w4 ⟨rfl, hs4⟩
    have S4 := Lib.hid hs4
    clear S3 H3 hs4
    have V4 := Lib.hid (show Calls Tryz.prog 41 #[.pointer (some ⟨g, 0, none⟩)] w4 fun e w' => e = .returned (.tuple #[.int .u64 x.val, .bool x.has]) ∧ Still w4 w' from val_any (NW.out w4 (S4.out.keeps hN hB)))
    go_wp2_with fail
    (with_reducible refine V4.out.mono ?_)
    rintro e w5 ⟨rfl, hs5⟩
    have S5 := Lib.hid (S4.out.still hs5)
    clear S4 V4 hs5
    go_upto_if 28 with fail
    go_cut [7] (fun v7 wc => v7 = .bool x.has ∧ Sh B b w N (l ++ (begL x k.len ++ textL x.part) ++ valL x) wc)
    case first =>
      cases hhs : x.has with
      | false =>
        have HHS := Lib.hid hhs
        clear hhs
        go_wp2_with fail
        go_meet
        have := S5.out
        unfold valL
        rw [HHS.out]
        simpa using this
      | true =>
        have HHS := Lib.hid hhs
        clear hhs
        have F5 := Lib.hid (format_any x.val.toNat hv1 w5 (HTB.out.below (S5.out.keeps hN hB) hB0))
        have z4 : (bstr (Lib.decDigits x.val.toNat)).size ≤ 20 := by rw [bstr_size]; exact dec_len _ hv1
        rw [← hv0.out] at F5
        go_wp2_with fail
        (with_reducible refine F5.out.mono ?_)
        rintro e w6 ⟨rfl, hb6⟩
        have hvl : valL x = 61 :: Lib.decDigits x.val.toNat := by unfold valL; rw [HHS.out]; rfl
        have H6 := Lib.hid ((S5.out.below hb6).write (valL x) (by have := HLN.out; unfold shL at this; simp only [List.length_append] at this ⊢; omega) hB)
        rw [hvl, show bstr (61 :: Lib.decDigits x.val.toNat) = ByteArray.mk #[61] ++ bstr (Lib.decDigits x.val.toNat) from (bstr_append [61] _).symm, ← hvl] at H6
        clear S5 F5 hb6
        go_wp2_with fail
        (with_reducible refine H6.out.mono ?_)
        rintro e w7 ⟨rfl, hs7⟩
        have S7 := Lib.hid hs7
        clear H6 hs7
        go_wp2_with fail
        go_meet
        exact ⟨by first | rfl | exact HHS.out.symm | exact HHS.out | rw [HHS.out], S7.out⟩
    case rest =>
      obtain ⟨rfl, hs⟩ := hcut
      have S6 := Lib.hid hs
      clear hs S5 z2 z3
      generalize hw6 : wc = w6 at *
      clear hw6
      have H0 := Lib.hid (nnext_any (NW.out w6 (S6.out.keeps hN hB)) 0 (by omega))
      rw [next_first] at H0
      unfold kidV at H0
      obtain ⟨z0, hz0⟩ : ∃ z0, eb ek[0]? = z0 := ⟨_, rfl⟩
      obtain ⟨p0, hp0⟩ : ∃ p0, ex ek[0]? = p0 := ⟨_, rfl⟩
      rw [hz0, hp0] at H0
      have Z0 := Lib.hid hz0
      have P0 := Lib.hid hp0
      clear hz0 hp0
      go_wp2_with fail
      (with_reducible refine H0.out.mono ?_)
      rintro e w7 ⟨rfl, hs7⟩
      obtain ⟨l1, hl1⟩ : ∃ l1, l ++ (begL x k.len ++ textL x.part) ++ valL x = l1 := ⟨_, rfl⟩
      rw [hl1] at S6
      have rel0 : ∃ (r : Fo) (er : List Ent) (i : Nat) (done : List UInt8), r.len = k.len ∧ ek.drop i = er ∧ r.Is w (· < B) er ∧ r.ok ∧ r.All (fun _ x k => Tells B b c x k) ∧
          Value.int .u8 z0 = .int .u8 (eb er.head?) ∧ Value.pointer p0 = .pointer (ex er.head?) ∧ k.sh = done ++ r.sh ∧ Sh B b w N (l1 ++ done) w7 := by
        refine ⟨k, ek, 0, [], rfl, rfl, T3.out, okk, hK, by rw [List.head?_eq_getElem?, Z0.out], by rw [List.head?_eq_getElem?, P0.out], rfl, ?_⟩
        rw [List.append_nil]
        exact S6.out.still hs7
      have R0 := Lib.hid rel0
      have HKK := Lib.hid hK
      have HL1 := Lib.hid hl1
      clear rel0 hs7 H0 S6 hK hl1
      have HLX := Lib.hid (show l1.length + k.sh.length + (endL x).length ≤ 140737488355328 by have := HLN.out; rw [← HL1.out]; unfold shL at this; simp only [List.length_append] at this ⊢; omega)
      go_wp2_with fail
      go_loopg [8, 9] k.len (fun qn vb vk wr => ∃ (r : Fo) (er : List Ent) (i : Nat) (done : List UInt8), r.len = qn ∧ ek.drop i = er ∧ r.Is w (· < B) er ∧ r.ok ∧ r.All (fun _ x k => Tells B b c x k) ∧
          vb = .int .u8 (eb er.head?) ∧ vk = .pointer (ex er.head?) ∧ k.sh = done ++ r.sh ∧ Sh B b w N (l1 ++ done) wr)
      case atStart => exact R0.out
      case round =>
        obtain ⟨r, er, i, done, q1, q2, q3, q4, q5, rfl, rfl, q7, q8⟩ := hrel
        cases r with
        | nil =>
          obtain rfl : er = [] := q3
          have HE := Lib.hid (q8.write (endL x) (by have := HLX.out; rw [q7] at this; simp only [List.length_append] at this ⊢; omega) hB)
          have HQ := Lib.hid (show l1 ++ done ++ endL x = l ++ shL x k from by rw [← HL1.out]; unfold shL; rw [q7]; simp [Fo.sh])
          simp only [List.head?_nil, eb, ex]
          clear q1 q2 q4 q5 q7 q8 R0
          go_wp2_with fail
          (with_reducible refine HE.out.mono ?_)
          rintro e w8 ⟨rfl, hs8⟩
          rw [HQ.out] at hs8
          have HS8 := Lib.hid hs8
          clear hs8
          go_wp2
          go_end0
          exact ⟨rfl, HS8.out⟩
        | cons b' x' k' r' =>
          obtain ⟨g', be', A'', ek', er', rfl, y1, y2, y3, y4⟩ := q3
          obtain ⟨hT, hTr⟩ := q5
          obtain ⟨o1, o2, o3⟩ := q4
          have he : ek[i]? = some (b', some ⟨g', 0, none⟩) := by rw [← List.head?_drop, q2]; rfl
          have hdr : ek.drop (i + 1) = er' := by rw [← List.drop_drop, q2]; rfl
          have hnx : ek[i + 1]? = er'.head? := by rw [← hdr, List.head?_drop]
          have HNX := Lib.hid (show nextE ek ((b'.toNat : Int) + 1) = er'.head? from (next_after UP.out he rfl).trans hnx)
          have hcb : b'.toNat < 256 := b'.toNat_lt
          have ewb : IntKind.i64.wrap ((b'.toNat : Int) + 1) = (b'.toNat : Int) + 1 := by rw [IntKind.wrap_i64]; omega
          have LB := Lib.hid (show (l1 ++ done ++ (58 :: textL [b'])).length + (shL x' k').length + r'.sh.length ≤ 140737488355328 from by have := HLX.out; rw [q7, Fo.sh_cons] at this; simp only [List.length_append] at this ⊢; omega)
          have HTT := Lib.hid (fun W (hs : Sh B b w N (l1 ++ done ++ (58 :: textL [b'])) W) => hs.tell hT ⟨be', A'', ek', y1, y2, y3⟩ o1 o2 hN hc hNc HTB.out hB0 hB (by have := LB.out; omega))
          have HR' := Lib.hid (show r'.Is w (· < B) er' ∧ r'.ok ∧ r'.All (fun _ x k => Tells B b c x k) ∧ k.sh = (done ++ (58 :: textL [b']) ++ shL x' k') ++ r'.sh from ⟨y4, o3, hTr, by rw [q7, Fo.sh_cons]; simp⟩)
          have Q8 := Lib.hid q8
          have XT := Lib.hid (text_any (some ⟨wr.heap.size, 0, none⟩) 1 1 (wr.heap.size + 1) [b'] (wr.alloc (.cells #[.int .u8 (b'.toNat : Int)] 5)) ((byt_one wr 5 rfl).more (by simp)) (by simp) (by omega))
          have z5 : (bstr (textL [b'])).size ≤ 2 := by rw [bstr_size, textL_length]; simp
          have HDR := Lib.hid hdr
          clear hT hTr o1 o2 o3 he hdr hnx q2 q7 q8 y1 y2 y3 y4 R0
          simp only [List.head?_cons, eb, ex]
          go_wp2_with fail
          (with_reducible refine XT.out.mono ?_)
          rintro e w8 ⟨rfl, hb8⟩
          have S8 := Lib.hid (show Sh B b w N (l1 ++ done) w8 from Q8.out.below (((Below.refl _ _).alloc (Nat.le_refl _) _).trans (hb8.mono (by simp))))
          have H8 := Lib.hid (S8.out.write (58 :: textL [b']) (by have := LB.out; simp only [List.length_append] at this ⊢; omega) hB)
          rw [show bstr (58 :: textL [b']) = ByteArray.mk #[58] ++ bstr (textL [b']) from (bstr_append [58] _).symm] at H8
          clear S8 hb8 XT Q8
          go_wp2_with fail
          (with_reducible refine H8.out.mono ?_)
          rintro e w9 ⟨rfl, hs9⟩
          have cc : w9.cell? ⟨c, 0, none⟩ = some (.func (.func 37) #[] #[.pointer (some ⟨b, 0, none⟩), .pointer (some ⟨c, 0, none⟩)]) := by
            obtain ⟨N9, _, k9, _⟩ := hs9
            exact (k9.blk hc hNc).cell 0
          have H9 := Lib.hid (HTT.out w9 hs9)
          clear H8 hs9 HTT
          go_wp2_with fail
          (with_reducible refine H9.out.mono ?_)
          rintro e wa ⟨rfl, hsa⟩
          have HA := Lib.hid hsa
          have XA := Lib.hid (nnext_any (NW.out wa (hsa.keeps hN hB)) ((b'.toNat : Int) + 1) (by omega))
          rw [HNX.out] at XA
          unfold kidV at XA
          clear hsa H9 cc
          go_wp2_with fail
          (with_reducible refine XA.out.mono ?_)
          rintro e wb ⟨rfl, hsb⟩
          have HRB := Lib.hid (show ∃ (r : Fo) (er : List Ent) (i : Nat) (done : List UInt8), r.len = r'.len ∧ ek.drop i = er ∧ r.Is w (· < B) er ∧ r.ok ∧ r.All (fun _ x k => Tells B b c x k) ∧
              Value.int .u8 (eb er'.head?) = .int .u8 (eb er.head?) ∧ Value.pointer (ex er'.head?) = .pointer (ex er.head?) ∧ k.sh = done ++ r.sh ∧ Sh B b w N (l1 ++ done) wb from by
            obtain ⟨y4, o3, hTr, hq⟩ := HR'.out
            refine ⟨r', er', i + 1, done ++ (58 :: textL [b']) ++ shL x' k', rfl, HDR.out, y4, o3, hTr, rfl, rfl, hq, ?_⟩
            have := HA.out.still hsb
            simpa using this)
          clear hsb XA HA
          go_wp2_with fail
          go_roundg r'.len
          case measure => simp only [Fo.len] at q1; omega
          case rel => exact HRB.out

theorem tells_all (B b c : Nat) (x : Nn) (k : Fo) : Tells B b c x k := tells_step x k (Fo.all_of (fun _ x k h => tells_step x k h) k)

set_option maxRecDepth 100000 in
set_option maxHeartbeats 1000000 in
theorem shape_any (t : Option (Nn × Fo)) (p : Option Addr) (B : Nat) (w : World) (ht : OTre w (· < B) t p) (ok : ook t) (htb : Tb w) (h0 : 0 < B) (hB : B ≤ w.heap.size) (hl : (oshL t).length ≤ 140737488355328) :
    Calls Tryz.prog 21 #[.pointer p] w fun e w' => e = .returned (.string (bstr (oshL t))) ∧ Below w.heap.size w w' := by
  cases t with
  | none =>
    obtain rfl : p = none := ht
    have HK := Lib.hid (nkind_nil w)
    go_enter Tryz.func21, Tryz.ntmps21
    go_wp2_with fail
    (with_reducible refine HK.out.mono ?_)
    rintro e w1 ⟨rfl, rfl⟩
    go_wp2
    go_ret
    exact ⟨rfl, Below.refl _ _⟩
  | some xk =>
    obtain ⟨x, k⟩ := xk
    obtain ⟨g, rfl, hx⟩ := ht
    have hx' := hx
    obtain ⟨be, A, ek, t1, _, _⟩ := hx'
    have HK := Lib.hid (nkind_any t1)
    have hne := kindD_ne (x.nd ek)
    generalize kindD (x.nd ek) = kd at HK hne
    clear t1
    have HX := Lib.hid hx
    have HTB := Lib.hid htb
    clear hx htb
    go_enter Tryz.func21, Tryz.ntmps21
    go_wp2_with fail
    (with_reducible refine HK.out.mono ?_)
    rintro e w1 ⟨rfl, hs⟩
    obtain ⟨U, hU⟩ : ∃ U, ((w1.alloc (.cells #[.pointer none, .slice none 0 0] 80)).alloc (.cells #[.func (.func 37) #[] #[.pointer (some ⟨w.heap.size, 0, none⟩), .pointer (some ⟨w.heap.size + 1, 0, none⟩)]] 81)) = U := ⟨_, rfl⟩
    have sz : w1.heap.size = w.heap.size := by obtain ⟨k, rfl⟩ := hs; rfl
    have szU : U.heap.size = w.heap.size + 2 := by rw [← hU, ← sz]; simp
    have bU : Below w.heap.size w U := by
      rw [← hU]
      exact ((hs.below _).alloc (by omega) _).alloc (by simp; omega) _
    have hb : Bld w.heap.size U (· = w.heap.size) w.heap.size [] := by
      refine ⟨⟨none, _, ?_, .inl rfl, Mine.nil _ _ _, fun i q => by simp [Value.ownBlock] at q⟩, rfl, by omega, fun i hi => by omega⟩
      rw [← hU]
      have h1 := World.alloc_heap_new w1 (.cells #[.pointer none, .slice none 0 0] 80)
      rw [sz] at h1
      exact (Below.heap_alloc _ _ _ (by simp; omega)).trans h1
    have hcb : Blk U (w.heap.size + 1) #[.func (.func 37) #[] #[.pointer (some ⟨w.heap.size, 0, none⟩), .pointer (some ⟨w.heap.size + 1, 0, none⟩)]] := by
      rw [← hU]
      have := Blk.new (w1.alloc (.cells #[.pointer none, .slice none 0 0] 80)) 81 #[.func (.func 37) #[] #[.pointer (some ⟨w.heap.size, 0, none⟩), .pointer (some ⟨w.heap.size + 1, 0, none⟩)]]
      rw [World.size_alloc, sz] at this
      exact this
    have HT := Lib.hid (tells_all w.heap.size w.heap.size (w.heap.size + 1) x k U _ [] g ((HX.out.below (fun _ q => q) (bU.mono hB)).mono (fun i q => by omega)) ok.1 ok.2 hb hcb (by omega) (HTB.out.below (bU.mono hB) h0) (by omega) (by omega) (by simpa [oshL] using hl))
    have HU := Lib.hid hU
    have BU := Lib.hid bU
    clear hU hb hcb bU
    go_wp2_with fail
    rw [HU.out]
    (with_reducible refine HT.out.mono ?_)
    rintro e w2 ⟨rfl, N2, k1, k2, k3⟩
    have b2 := BU.out.trans (k2.below (B := w.heap.size) (by omega) (fun i hi => by omega))
    have HS := Lib.hid (sh_Builder_String_any _ _ _ w2 k1.isb b2.size)
    have B2 := Lib.hid b2
    clear k1 k2 k3 b2 HT
    go_wp2_with fail
    (with_reducible refine HS.out.mono ?_)
    rintro e w3 ⟨rfl, hb3⟩
    have B3 := Lib.hid (B2.out.trans hb3)
    clear hb3 HS
    go_wp2
    go_ret
    exact ⟨rfl, B3.out⟩
end Go.Proofs.YtajpipaooaemdaaGreatDoor
