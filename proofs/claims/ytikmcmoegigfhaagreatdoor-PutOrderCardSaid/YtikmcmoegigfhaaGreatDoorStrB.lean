/-
  A strings.Builder of the call's own: WriteString, String; a number's digits as strconv tells them.
-/
import Derived.Test.YtikmcmoegigfhaaGreatDoorStops
import Derived.Test.YtikmcmoegigfhaaGreatDoorShelf
import Derived.Lib.Builder
import Derived.Laws.Externs
import Derived.Laws.AppendOwn
import Derived.Lib.AppendStr
import Derived.Test.YtikmcmoegigfhaaGreatDoorText
namespace Go.Proofs.YtikmcmoegigfhaaGreatDoor
open Go.RowKit

/-- Block b is a builder that holds l; its bytes' row lies in N. -/
structure Bld (B : Nat) (w : World) (N : Nat → Prop) (b : Nat) (l : List UInt8) : Prop where
  at_ : ∃ p v, w.heap[b]? = some (.cells #[.pointer p, v] 80 (0, 0)) ∧ (p = none ∨ p = some ⟨b, 0, none⟩) ∧ Mine w B 5 v l.length l ∧ ∀ i, v.ownBlock = some i → N i ∧ i ≠ b
  own : N b
  lo : B ≤ b
  new : ∀ i, N i → B ≤ i ∧ i < w.heap.size
theorem Bld.kept {B b : Nat} {w w' : World} {N D : Nat → Prop} {l : List UInt8} (h : Bld B w N b l) (hk : Kept D w w') (hD : ∀ i, N i → ¬ D i) : Bld B w' N b l := by
  obtain ⟨⟨p, v, h1, h2, h3, h4⟩, h5, h6, h7⟩ := h
  exact ⟨⟨p, v, (hk.block b (h7 b h5).2 (hD b h5)).trans h1, h2, h3.kept hk (fun i hi => hD i (h4 i hi).1), h4⟩, h5, h6, fun i hi => ⟨(h7 i hi).1, Nat.lt_of_lt_of_le (h7 i hi).2 hk.size⟩⟩
theorem Bld.isb {B b : Nat} {w : World} {N : Nat → Prop} {l : List UInt8} (h : Bld B w N b l) : Lib.IsBuilder 80 5 B b (Lib.byteCells l) w := by
  obtain ⟨⟨p, v, h1, h2, h3, h4⟩, h5, h6, h7⟩ := h
  have e : Lib.byteCells l = l.map bv := rfl
  have at_ : ∀ q, p = q → Lib.BuilderAt 80 5 B b (.pointer q) (Lib.byteCells l) w := fun q hq => by
    subst hq
    refine ⟨h6, v, h1, ?_, fun q => (h4 b q).2 rfl⟩
    rw [e, List.length_map]
    exact h3
  rcases h2 with rfl | rfl
  · exact .inl (at_ _ rfl)
  · exact .inr (at_ _ rfl)
set_option maxRecDepth 100000 in
theorem sb_size : (Tryz.prog.info? 80).map (·.size) = some 2 := by kernel_rfl
set_option maxRecDepth 100000 in
theorem sb_lies : liesAt Tryz.prog Tryz.prog.depth 80 (2 / Tryz.prog.cellsOf 80) 0 80 1 = true := by kernel_rfl

set_option maxHeartbeats 1000000 in
set_option maxRecDepth 100000 in
theorem copycheck_fresh (b : Nat) (w : World) (h0 : w.cell? ⟨b, 0, none⟩ = some (.pointer none)) (hsh : w.shape? b = some (80, 2)) (hfz : w.frozen? ⟨b, 0, none⟩ = false) :
    Calls Tryz.prog 65 #[.pointer (some ⟨b, 0, none⟩)] w fun e w' => e = .returned (.tuple #[]) ∧ w' = w.setCell ⟨b, 0, none⟩ (.pointer (some ⟨b, 0, none⟩)) := by
  obtain ⟨j, hj, hjs⟩ := Option.map_eq_some_iff.1 sb_size
  go_enter Tryz.func65, Tryz.ntmps65
  go_wp2
  rw [Lib.run_to_unsafe w ⟨b, 0, none⟩ Tryz.underlying78 Tryz.underlying135 hj (by rw [hjs]; decide) hsh (Nat.zero_lt_succ 1)]
  simp only [Result.andThen]
  rw [Oper.upon_value]
  go_wp2
  rw [run_callFunc_extern Tryz.func87 (by kernel_rfl) (by kernel_rfl) (by kernel_rfl) (e := Extern.AbiNoEscape.same) (by kernel_rfl)]
  rw [Lib.run_noEscape]
  simp only [Result.andThen]
  rw [Oper.upon_value]
  go_wp2
  rw [Lib.run_from_unsafe w ⟨b, 0, none⟩ Tryz.underlying135 Tryz.underlying78 hj hsh sb_lies]
  simp only [Result.andThen]
  rw [Oper.upon_value]
  go_wp2
  go_end0
  exact ⟨rfl, rfl⟩
set_option maxHeartbeats 1000000 in
set_option maxRecDepth 100000 in
theorem copycheck_used (b : Nat) (w : World) (h0 : w.cell? ⟨b, 0, none⟩ = some (.pointer (some ⟨b, 0, none⟩))) :
    Calls Tryz.prog 65 #[.pointer (some ⟨b, 0, none⟩)] w fun e w' => e = .returned (.tuple #[]) ∧ w' = w := by
  obtain ⟨j, hj, _⟩ := Option.map_eq_some_iff.1 sb_size
  have hne := Lib.run_neq_ptr_same (P := Tryz.prog) w ⟨b, 0, none⟩ Tryz.underlying78 hj
  go_enter Tryz.func65, Tryz.ntmps65
  go_wp2
  go_end0
  exact ⟨rfl, rfl⟩

/-- append of a string onto a row of bytes of the call's own. -/
theorem run_append_str {P : Program} (w : World) {t u ty e : TypeId} (ht : P.underlying t = some (.slice e)) (hu : P.underlying u = some .string) (hi : (P.info? e).map (fun i => (i.zero, i.size, i.bytes)) = some (some (.int .u8 0), 1, 1))
    (base : Nat) (v : Value) (n : Nat) (l m : List UInt8) (hown : Mine w base e v n l) (hbytes : n + m.length ≤ 140737488355328) (hbase : base ≤ w.heap.size) :
    ∃ v' w', (Builtin.append_ #[t, u] ty #[v, .string (bstr m)]).run P w = .ok v' w' ∧ Mine w' base e v' (n + m.length) (l ++ m) ∧ w.grownBy w' v.ownBlock ∧ ∀ i, v'.ownBlock = some i → v.ownBlock = some i ∨ w.heap.size ≤ i := by
  obtain ⟨i0, hi0, hz0, hz1, hz2⟩ := info_parts hi
  have hsz : (bstr m).size = m.length := by simp [bstr, ByteArray.size]
  have e1 : Lib.strCells (bstr m) = m.map bv := by simp only [Lib.strCells, bstr]; rfl
  have law : ∀ base', base' ≤ w.heap.size → Mine w base' e v n l → ∃ v' w', (Builtin.append_ #[t, u] ty #[v, .string (bstr m)]).run P w = .ok v' w' ∧ Mine w' base' e v' (n + m.length) (l ++ m) ∧ w.grownBy w' v.ownBlock := fun base' hb' ho => by
    obtain ⟨v', w', hrun, h2, h3, _⟩ := Lib.run_append_own_string (P := P) w base' t u ty e i0 ht hu hi0 hz0 hz1 hz2 v n (l.map bv) ho (bstr m) (by rw [hsz]; unfold maxLen; omega) (by rw [hsz]; omega) hb'
    refine ⟨v', w', hrun, ?_, h3⟩
    unfold Mine
    rw [List.map_append, ← e1, ← hsz]
    exact h2
  obtain ⟨v', w', hrun, h2, h3⟩ := law base hbase hown
  refine ⟨v', w', hrun, h2, h3, fun i hi => ?_⟩
  rcases hown.2 with ⟨rfl, rfl⟩ | ⟨g, cap, cur, rfl, hbg, hg, hnc, hcm, hcs, htake⟩
  · obtain ⟨v2, w2, hr2, k2, _⟩ := law w.heap.size (Nat.le_refl _) ⟨hown.1, .inl ⟨rfl, rfl⟩⟩
    rw [hrun] at hr2
    injection hr2 with e2 e3
    subst e2
    exact .inr (k2.lt i hi).1
  · by_cases hroom : n + (bstr m).size ≤ cap
    · have hr := Lib.run_append_room_string (P := P) w t u ty e i0 ht hu hi0 hz1 g n cap cur hg (bstr m) hroom (by simp at hcs; omega)
      rw [hrun] at hr
      injection hr with e2 e3
      subst e2
      exact .inl hi
    · have holds : ∀ j u, (l.map bv)[j]? = some u → w.cell? ((⟨g, 0, none⟩ : Addr).add j) = some u := World.ownsRow.cells hown (g := g) rfl
      have hl := Mine.length hown
      have hr := Lib.run_append_grow_string (P := P) w t u ty e i0 (.int .u8 0) ht hu hi0 hz0 ⟨g, 0, none⟩ n cap (l.map bv) (by rw [hz1]; simp; omega) holds (bstr m) (by omega) (by omega) (by rw [hz2]; exact growslice_fits (by omega) (by omega))
      rw [hrun] at hr
      injection hr with e2 e3
      subst e2
      have : w.heap.size = i := by simpa [Value.ownBlock] using hi
      exact .inr (by omega)
theorem wpList_append_eq {P : Program} {w : World} {ops : Array Oper} {rest : List Oper} {o : Oper} {a : Act} {Q : Exit → Act → World → Prop} (hgd : o.guard = none) (s x : Operand) (t u : TypeId)
    (ho : o.op = .call { callee := .builtin .append, args := #[s, x], argTypes := #[t, u] }) {v v' y : Value} {w' : World} (hs : a.eval s = v) (hx : a.eval x = y)
    (hrun : (Builtin.append_ #[t, u] o.type #[v, y]).run P w = .ok v' w') (h : wpList P ops Q rest (a.put o.dst v') w') : wpList P ops Q (o :: rest) a w :=
  wpList_plain hgd fun _ hK => by
    unfold Oper.wp execOp
    simp only [ho, resolve, invoke, builtin, Sem.run_bind, Sem.run_pure, Result.andThen_ok, List.map_toArray, List.map_cons, List.map_nil, hs, hx, hrun]
    exact hK _ _ h

/-- What a write to a builder leaves. -/
def WrPost (B : Nat) (w : World) (N : Nat → Prop) (b : Nat) (l : List UInt8) (k : Nat) (e : Ending) (w' : World) : Prop :=
  e = .returned (.tuple #[.int .i64 (k : Int), .nilIface]) ∧ ∃ N', Bld B w' N' b l ∧ Kept N w w' ∧ ∀ i, N' i → N i ∨ w.heap.size ≤ i
set_option maxRecDepth 100000 in
set_option maxHeartbeats 1000000 in
theorem writestring_any {B b : Nat} {w : World} {N : Nat → Prop} {l : List UInt8} (h : Bld B w N b l) (m : List UInt8) (hn : l.length + m.length ≤ 140737488355328) (hB : B ≤ w.heap.size) :
    Calls Tryz.prog 36 #[.pointer (some ⟨b, 0, none⟩), .string (bstr m)] w (WrPost B w N b (l ++ m) m.length) := by
  have HH := Lib.hid h
  obtain ⟨⟨p, v, h1, h2, h3, h4⟩, h5, h6, h7⟩ := h
  -- behind the look at the copy
  obtain ⟨W, hW⟩ : ∃ W, W = w.setCell ⟨b, 0, none⟩ (.pointer (some ⟨b, 0, none⟩)) := ⟨_, rfl⟩
  have hcc : Calls Tryz.prog 65 #[.pointer (some ⟨b, 0, none⟩)] w fun e w' => e = .returned (.tuple #[]) ∧ Kept (· = b) w w' ∧ w'.heap[b]? = some (.cells #[.pointer (some ⟨b, 0, none⟩), v] 80 (0, 0)) := by
    rcases h2 with rfl | rfl
    · refine (copycheck_fresh b w (by simp [World.cell?, h1]) (by simp [World.shape?, h1]) (by simp [World.frozen?, h1])).mono ?_
      rintro e w' ⟨rfl, rfl⟩
      exact ⟨rfl, Kept.set_ _ _ _ rfl, by simp [World.setCell, Array.getElem?_modify, h1]⟩
    · refine (copycheck_used b w (by simp [World.cell?, h1])).mono ?_
      rintro e w' ⟨rfl, rfl⟩
      exact ⟨rfl, Kept.refl _ _, h1⟩
  have HC := Lib.hid hcc
  have hLn : (l ++ m).length = l.length + m.length := by simp
  clear hcc hW W h1 h2
  go_enter Tryz.func36, Tryz.ntmps36
  go_wp2_with fail
  (with_reducible refine HC.out.mono ?_)
  rintro e w1 ⟨rfl, k1, b1⟩
  have m1 := h3.kept k1 (fun i hi e => (h4 i hi).2 e)
  obtain ⟨A1, c1, rfl⟩ := h3.slice
  have ce : w1.cell? ⟨b, 1, none⟩ = some (.slice A1 l.length c1) := by simp [World.cell?, b1]
  obtain ⟨v2, w2, r1, r2, r3, r4⟩ := run_append_str (P := Tryz.prog) w1 (t := 23) (u := 9) (ty := 23) Tryz.underlying23 Tryz.underlying9 info_u8 B _ _ l m m1 hn (Nat.le_trans hB k1.size)
  obtain ⟨A2, cc2, rfl⟩ := Mine.slice r2
  have hbl : b < w1.heap.size := by have := (h7 b h5).2; have := k1.size; omega
  have b2 : w2.heap[b]? = some (.cells #[.pointer (some ⟨b, 0, none⟩), .slice A1 l.length c1] 80 (0, 0)) := (r3.block b hbl (fun q => (h4 b q.symm).2 rfl)).trans b1
  have c2 : w2.cell? ⟨b, 1, none⟩ = some (.slice A1 l.length c1) := by simp [World.cell?, b2]
  have z2 : w2.frozen? ⟨b, 1, none⟩ = false := by simp [World.frozen?, b2]
  have ks : Kept (· = b) w2 (w2.setCell ⟨b, 1, none⟩ (.slice A2 (l.length + m.length) cc2)) := Kept.set_ _ _ _ rfl
  have k2 : Kept N w1 w2 := ⟨r3.os, r3.tape, r3.output, r3.size, fun i hi hn => r3.block i hi (fun q => hn (h4 i q.symm).1)⟩
  have own2 : ∀ i, (Value.slice A2 (l.length + m.length) cc2).ownBlock = some i → (N i ∨ w.heap.size ≤ i) ∧ i ≠ b := fun i hi => by
    rcases r4 i hi with q | q
    · exact ⟨.inl (h4 i q).1, (h4 i q).2⟩
    · have := k1.size; exact ⟨.inr (by omega), by omega⟩
  have HE := Lib.hid (show WrPost B w N b (l ++ m) m.length (.returned (.tuple #[.int .i64 (m.length : Int), .nilIface])) (w2.setCell ⟨b, 1, none⟩ (.slice A2 (l.length + m.length) cc2)) from by
    have s1 := k1.size
    have s2 := r3.size
    have s3 := ks.size
    refine ⟨rfl, fun i => N i ∨ (w.heap.size ≤ i ∧ i < w2.heap.size), ⟨⟨some ⟨b, 0, none⟩, .slice A2 (l.length + m.length) cc2, ?_, .inr rfl, ?_, fun i hi => ⟨?_, (own2 i hi).2⟩⟩, .inl h5, h6, fun i hi => ?_⟩, ((k1.mono (fun i e => e ▸ h5)).trans k2).trans (ks.mono (fun i e => e ▸ h5)), fun i q => q.elim .inl (fun q => .inr q.1)⟩
    · simp [World.setCell, Array.getElem?_modify, b2]
    · rw [hLn]; exact r2.kept ks (fun i hi e => (own2 i hi).2 e)
    · rcases (own2 i hi).1 with q | q
      · exact .inl q
      · exact .inr ⟨q, (r2.lt i hi).2⟩
    · rcases hi with q | q
      · have := h7 i q; omega
      · omega)
  clear k1 b1 m1 h3 h4 h5 h6 h7 r2 r3 r4 b2 ks k2 own2 hbl
  go_wp2_with (at_builtin; refine wpList_append_eq rfl (.tmp 12) (.tmp 13) _ _ rfl (by rfl) (by rfl) r1 ?_)
  all_goals
    go_ret2
    exact HE.out

/-- The table that numDigits reads. -/
abbrev Tb (w : World) : Prop := Lib.TabIs Tryz.prog w "internal/strconv.uint64pow10" .u64 Lib.pow10Tab
set_option maxRecDepth 100000 in
theorem tb_num : Tryz.prog.globalNamed "internal/strconv.uint64pow10" = some 0 := by kernel_rfl
theorem Tb.lt {w : World} (h : Tb w) : 0 < w.heap.size := by
  unfold Tb Lib.TabIs World.var? at h
  rw [tb_num] at h
  rcases Nat.lt_or_ge 0 w.heap.size with q | q
  · exact q
  · simp [Array.getElem?_eq_none q] at h
theorem Tb.below {w w' : World} {B : Nat} (h : Tb w) (hb : Below B w w') (hB : 0 < B) : Tb w' := by
  unfold Tb Lib.TabIs World.var? at h ⊢
  rw [tb_num] at h ⊢
  simp only [Option.bind_some] at h ⊢
  rw [hb.block _ hB]
  exact h
theorem below_grow (w : World) (os : Array Obj) : Below w.heap.size w (Sort.grow w os) :=
  ⟨rfl, rfl, rfl, by simp, fun k hk => by simp [Sort.grow, Array.getElem?_append, hk]⟩
set_option maxRecDepth 100000 in
theorem itoa_any (n : Nat) (w : World) (hn : n ≤ 9223372036854775807) (ht : Tb w) : Calls Tryz.prog 35 #[.int .i64 (n : Int)] w fun e w' => e = .returned (.string (bstr (Lib.decDigits n))) ∧ Below w.heap.size w w' := by
  refine (sh_strconv_Itoa (n : Int) (by omega) (by omega) w ht).mono ?_
  rintro e w' ⟨rfl, k, os, rfl⟩
  rw [Lib.itoa_nonneg]
  exact ⟨rfl, (below_drewN (Below.refl _ _) k).trans (show Below w.heap.size (w.drewN k) _ from below_grow (w.drewN k) os)⟩

open Go.Lib Go.Sort in
set_option maxRecDepth 100000 in
set_option maxHeartbeats 1000000 in
theorem iformat_any (u : Nat) (hu : u < 18446744073709551616) (w : World) (htab : Tb w) :
    Calls Tryz.prog 67 #[.int .u64 (u : Int), .int .i64 10] w fun e w' => e = .returned (.string (bstr (Lib.decDigits u))) ∧ Below w.heap.size w w' := by
  by_cases hs : u < 100
  · have HS := Lib.hid (sh_internal_strconv_small u hs w)
    have ew : IntKind.i64.wrap (u : Int) = (u : Int) := by rw [IntKind.wrap_i64]; omega
    have hui : (u : Int) < 100 := by omega
    go_enter Tryz.func67, Tryz.ntmps67
    go_wp2_with fail
    (with_reducible refine HS.out.mono ?_)
    rintro e w' ⟨rfl, rfl⟩
    go_wp2
    go_ret
    exact ⟨rfl, Below.refl _ _⟩
  · have hu1 : 1 ≤ u := by omega
    have hnd20 : Lib.nDigits u ≤ 20 := by have := Lib.numDigits_eq u hu1 hu; split at this <;> omega
    have HN := Lib.hid (sh_internal_strconv_numDigits u hu1 hu (w.alloc (.cells Lib.zeros24 137)) (Lib.tabIs_alloc htab _))
    have hal : Tryz.prog.arrayLen 137 = 24 := by kernel_rfl
    have hsl1 : ∀ W, (Instr.sliceAt 137 (.pointer (some ⟨w.heap.size, 0, none⟩)) none (some (.int .i64 (Lib.nDigits u : Int))) none).run Tryz.prog W = .ok (.slice (some ⟨w.heap.size, 0, none⟩) (Lib.nDigits u) 24) W := fun W => by
      rw [run_sliceAt_array_h W 137 ⟨w.heap.size, 0, none⟩ (by kernel_rfl) .i64 (Lib.nDigits u : Int) (by omega) (by rw [hal]; omega)]
      go_simp
    have hH0 : Holds (fun (b : UInt8) => Value.int .u8 (b.toNat : Int)) (w.alloc (.cells Lib.zeros24 137)) w.heap.size 0 (Array.replicate (Lib.nDigits u) (0 : UInt8)) := fun j hj => by
      have hj' : j < Lib.nDigits u := by simpa using hj
      refine ⟨?_, World.frozen?_alloc_new _ _ _ _⟩
      rw [World.cell?_alloc_new, Lib.zeros24_at _ (by omega), getElem!_pos _ j hj]
      simp
    have hfmt := sh_internal_strconv_formatBase10 w.heap.size 0 24 u (Array.replicate (Lib.nDigits u) 0) (w.alloc (.cells Lib.zeros24 137)) hH0 (by rw [Array.size_replicate]; exact Lib.lt_pow_nDigits u) hu (by rw [Array.size_replicate]; omega)
    rw [Array.size_replicate] at hfmt
    have HF := Lib.hid hfmt
    have HH0 := Lib.hid hH0
    have hui : ¬ (u : Int) < 100 := by omega
    obtain ⟨nd, hnd⟩ : ∃ nd, Lib.nDigits u = nd := ⟨_, rfl⟩
    have hdl : (Lib.decDigits u).length = nd := by rw [← hnd]; exact Lib.decDigits_length u
    clear hH0 hal hfmt htab
    rw [hnd] at HN hsl1 HF HH0
    have HND := Lib.hid hnd
    have HDL := Lib.hid hdl
    clear hnd hdl hnd20
    go_enter Tryz.func67, Tryz.ntmps67
    go_wp2_with fail
    (refine HN.out.mono ?_)
    rintro e w' ⟨rfl, rfl⟩
    go_wp2_with fail
    (refine HF.out.mono ?_)
    rintro e w' ⟨rfl, k, v', dk, rfl, hF⟩
    have hcv : (convert 23 9 (.slice (some ⟨w.heap.size, 0, none⟩) nd 24)).run Tryz.prog ((putRow (fun (b : UInt8) => Value.int .u8 (b.toNat : Int)) (w.alloc (.cells Lib.zeros24 137)) w.heap.size 0 dk).drewN k) = .ok (.string (bstr (Lib.decDigits u))) ((putRow (fun (b : UInt8) => Value.int .u8 (b.toNat : Int)) (w.alloc (.cells Lib.zeros24 137)) w.heap.size 0 dk).drewN k) := by
      have h := run_convert_bytes_back (P := Tryz.prog) ((putRow (fun (b : UInt8) => Value.int .u8 (b.toNat : Int)) (w.alloc (.cells Lib.zeros24 137)) w.heap.size 0 dk).drewN k) 23 9 5 ⟨w.heap.size, 0, none⟩ 24 (Lib.decDigits u) Tryz.underlying23 Tryz.underlying5 Tryz.underlying9 (fun j hj => by
        rw [← HND.out] at hF
        rw [Lib.row_is_numeral hF j hj, Lib.add_plain, World.cell?_drewN]
        exact cell?_putRow (fun (b : UInt8) => Value.int .u8 (b.toNat : Int)) _ w.heap.size 0 _ dk HH0.out (by rw [hF.size, Array.size_replicate, HND.out]) j (by rw [hF.size]; rw [Lib.decDigits_length] at hj; exact hj))
      rw [HDL.out] at h
      exact h
    have HE := Lib.hid (show Below w.heap.size w ((putRow (fun (b : UInt8) => Value.int .u8 (b.toNat : Int)) (w.alloc (.cells Lib.zeros24 137)) w.heap.size 0 dk).drewN k) from by
      refine below_drewN ?_ k
      rw [alloc_eq_grow]
      obtain ⟨os', _, e⟩ := putRow_grow_new (fun (b : UInt8) => Value.int .u8 (b.toNat : Int)) w #[.cells Lib.zeros24 137] w.heap.size 0 dk (Nat.le_refl _)
      rw [e]
      exact below_grow _ _)
    clear hF
    go_wp2
    go_ret
    exact ⟨rfl, HE.out⟩
set_option maxRecDepth 100000 in
theorem format_any (u : Nat) (hu : u < 18446744073709551616) (w : World) (htab : Tb w) :
    Calls Tryz.prog 40 #[.int .u64 (u : Int), .int .i64 10] w fun e w' => e = .returned (.string (bstr (Lib.decDigits u))) ∧ Below w.heap.size w w' := by
  have H := Lib.hid (iformat_any u hu w htab)
  clear htab
  go_enter Tryz.func40, Tryz.ntmps40
  go_wp2_with fail
  (with_reducible refine H.out.mono ?_)
  rintro e w' ⟨rfl, hb⟩
  have HB := Lib.hid hb
  clear hb
  go_wp2
  go_ret
  exact ⟨rfl, HB.out⟩
end Go.Proofs.YtikmcmoegigfhaaGreatDoor
