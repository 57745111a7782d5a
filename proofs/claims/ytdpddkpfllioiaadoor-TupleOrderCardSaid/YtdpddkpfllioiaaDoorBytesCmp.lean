/-
  What bytes.Compare (the library's) answers of two slices of bytes, by the model's own entry of internal/bytealg.Compare.
-/
import Derived.Test.YtdpddkpfllioiaaDoorR1
import Derived.Lib.Bytealg
import Derived.Laws.Externs
namespace Go.Proofs.YtdpddkpfllioiaaDoor
open Go.RowKit

theorem load_bytes {P : Program} (w : World) : ∀ (l : List UInt8) (a : Addr) (acc : ByteArray), (∀ (j : Nat) (u : UInt8), l[j]? = some u → w.cell? (a.add j) = some (.int .u8 (u.toNat : Int))) →
    (Extern.Bytes.loadBytes a l.length acc).run P w = .ok ⟨acc.data ++ l.toArray⟩ w
  | [], a, acc, _ => by simp [Extern.Bytes.loadBytes]
  | u :: l, a, acc, h => by
    have h0 : w.cell? a = some (.int .u8 (u.toNat : Int)) := by simpa [Addr.add] using h 0 u rfl
    have ih := load_bytes (P := P) w l (a.add 1) (acc.push u) (fun j y hy => by
      rw [add_of_add, Nat.add_comm]; exact h (j + 1) y (by simpa using hy))
    have hx : ((u.toNat : Int).toNat.toUInt8) = u := by simp
    simp only [List.length_cons, Extern.Bytes.loadBytes, Sem.run_bind, run_load, h0, Result.andThen, hx]
    rw [ih]
    congr 2
    simp [ByteArray.push]
theorem bytesOf_byt {P : Program} {w : World} {B n : Nat} {A : Option Addr} {l : List UInt8} (h : Byt w B A n l) (c : Nat) : (Extern.Bytes.bytesOf (.slice A n c)).run P w = .ok ⟨l.toArray⟩ w := by
  obtain ⟨hl, _, hc⟩ := h
  subst hl
  cases A with
  | none =>
    have : l = [] := by
      cases l with
      | nil => rfl
      | cons u l => obtain ⟨ad, e, _⟩ := hc (by simp); cases e
    subst this
    rfl
  | some a =>
    simp only [Extern.Bytes.bytesOf]
    rw [load_bytes w l a .empty (fun j u hu => by
      obtain ⟨ad, e, _, hx⟩ := hc (by cases l with | nil => simp at hu | cons _ _ => simp)
      injection e with e
      subst e
      exact hx j u hu)]
    congr 2
    simp
theorem compare_cmpL : ∀ (a b : List UInt8), Lib.compareBytes a b = cmpL a b
  | [], [] => rfl
  | [], _ :: _ => rfl
  | _ :: _, [] => rfl
  | u :: a, v :: b => by
    simp only [Lib.compareBytes, cmpL, UInt8.lt_iff_toNat_lt]
    by_cases e : u = v
    · subst e
      rw [if_neg (by omega), if_neg (by omega), if_pos rfl]
      exact compare_cmpL a b
    · have h3 : u.toNat ≠ v.toNat := fun q => e (UInt8.toNat_inj.1 q)
      rw [if_neg e]
      by_cases h4 : u.toNat < v.toNat
      · rw [if_pos h4, if_pos h4]
      · rw [if_neg h4, if_neg h4, if_pos (by omega)]
theorem run_compare {P : Program} {w : World} {B n n' : Nat} {A A' : Option Addr} {l m : List UInt8} (h : Byt w B A n l) (h' : Byt w B A' n' m) (c c' : Nat) :
    (Extern.BytealgCompare.compare #[.slice A n c, .slice A' n' c']).run P w = .ok (.int .i64 (cmpL l m)) w := by
  change Sem.run P (do pure (goInt (Extern.BytealgCompare.cmp (← Extern.Bytes.bytesOf (.slice A n c)) (← Extern.Bytes.bytesOf (.slice A' n' c'))))) w = _
  simp only [Sem.run_bind, bytesOf_byt h, bytesOf_byt h', Sem.run_pure, Result.andThen]
  rw [Lib.cmp_eq, compare_cmpL]
  rfl

set_option maxRecDepth 100000 in
set_option maxHeartbeats 400000 in
theorem bcompare_any (A A' : Option Addr) (n n' c c' B : Nat) (l m : List UInt8) (w : World) (ha : Byt w B A n l) (hb : Byt w B A' n' m) :
    Calls Tryd.prog 74 #[.slice A n c, .slice A' n' c'] w fun e w' => e = .returned (.int .i64 (cmpL l m)) ∧ w = w' := by
  have HR := Lib.hid (run_compare (P := Tryd.prog) ha hb c c')
  clear ha hb
  go_enter Tryd.func74, Tryd.ntmps74
  go_wp2
  rw [run_callFunc_extern Tryd.func101 (by kernel_rfl) (by kernel_rfl) (by kernel_rfl) (e := Extern.BytealgCompare.compare) (by kernel_rfl), HR.out]
  simp only [Result.andThen]
  rw [Oper.upon_value]
  go_wp2
  go_ret
  exact ⟨rfl, rfl⟩
end Go.Proofs.YtdpddkpfllioiaaDoor
